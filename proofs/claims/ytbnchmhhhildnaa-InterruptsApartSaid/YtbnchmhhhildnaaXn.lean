/- Interrupts: slices.Insert at the front of an order. -/
import Derived.Test.YtbnchmhhhildnaaXm
namespace Go.Proofs.Ytbnchmhhhildnaa
open Go.RowKit Go.Maps Go.Shelf Go.Lib
set_option linter.unusedVariables false

def insRen : Go.Shelf.Ren := ⟨fun | 21 => 61 | 27 => 65 | 28 => 66 | 35 => 68 | 39 => 69 | n => n, fun | 0 => 0 | 3 => 3 | 4 => 4 | 22 => 64 | n => n, fun | n => n⟩
theorem insLay : Go.Proofs.Lays2.n21 Try.prog insRen := {
  mixed := by kernel_rfl
  f21 := Try.func61.trans (congrArg some (by kernel_rfl))
  f27 := Try.func65.trans (congrArg some (by kernel_rfl))
  f28 := Try.func66.trans (congrArg some (by kernel_rfl))
  f35 := Try.func68.trans (congrArg some (by kernel_rfl))
  f39 := Try.func69.trans (congrArg some (by kernel_rfl))
  t0 := Try.underlying0
  a0 := Try.isAgg0
  z0 := Try.sizeOf0
  v0 := Try.zeroValue0
  t3 := Try.underlying3
  a3 := Try.isAgg3
  z3 := Try.sizeOf3
  v3 := Try.zeroValue3
  t4 := Try.underlying4
  a4 := Try.isAgg4
  z4 := Try.sizeOf4
  v4 := Try.zeroValue4
  t22 := Try.underlying64
  a22 := Try.isAgg64
  z22 := Try.sizeOf64
  v22 := Try.zeroValue64
  i3 := by kernel_rfl }
theorem RowAt.setCells {b : Nat} {t : TypeId} : ∀ (vs : List Value) (o : Nat) {W : World} {cs : Array Value}, RowAt W b t cs → ∃ cs', RowAt (W.setCells b o vs) b t cs' ∧ cs'.size = cs.size
  | [], _, W, cs, h => ⟨cs, h, rfl⟩
  | v :: r, o, W, cs, h => by
    obtain ⟨cs', h1, h2⟩ := RowAt.setCells r (o + 1) (h.set o v)
    exact ⟨cs', h1, by rw [h2]; simp⟩
theorem fr_setCells {S : Nat → Prop} (R : Nat) (h : S R) : ∀ (vs : List Value) (o : Nat) (W : World), Fr S W (W.setCells R o vs)
  | [], _, W => Fr.refl S W
  | v :: vs, o, W => (Fr.set W R o v h).trans (fr_setCells R h vs (o + 1) _)
theorem ol_of {W : World} {b cap : Nat} {o : List Int} {cs : Array Value} (h : RowAt W b 3 cs) (hs : cs.size = cap) (hm : cap ≤ maxLen) (hn : o.length ≤ cap) (hc : ∀ i x, o[i]? = some x → W.cell? ⟨b, i, none⟩ = some (.int .i64 x)) : OL W (.slice (some ⟨b, 0, none⟩) o.length cap) o := by
  refine ⟨by rw [iv_len, Nat.mul_one], .inr ⟨b, cap, cs, rfl, Nat.zero_le _, h, hn, hm, by rw [hs, Nat.mul_one], ?_⟩⟩
  refine List.ext_getElem? fun i => ?_
  rw [List.getElem?_take, Nat.mul_one]
  by_cases hi : i < o.length
  · rw [if_pos hi, Array.getElem?_toList, ← h.cell, hc i _ (List.getElem?_eq_getElem hi)]
    simp [iv, hi]
  · rw [if_neg hi, List.getElem?_eq_none (by rw [iv_len]; omega)]
theorem ol_row {W : World} {g n cap : Nat} {o : List Int} (h : OL W (.slice (some ⟨g, 0, none⟩) n cap) o) : ∃ cur, RowAt W g 3 cur ∧ cur.size = cap ∧ cap ≤ maxLen ∧ o.length ≤ cap ∧ n = o.length := by
  rcases h.2 with ⟨h1, _⟩ | ⟨g', cap', cur, h1, _, h3, h4, h5, h6, h7⟩
  · cases h1
  · injection h1 with h1 hn hc
    injection h1 with h1
    injection h1 with h1 _ _
    subst h1; subst hc
    exact ⟨cur, h3, by rw [h6, Nat.mul_one], h5, h4, hn⟩
theorem iv_one (o : List Int) : ∀ v ∈ iv o, v.oneCell' = true := fun v hv => by
  simp [iv] at hv
  obtain ⟨x, _, rfl⟩ := hv
  rfl
theorem shape_row {W : World} {b : Nat} {t : TypeId} {cs : Array Value} (h : RowAt W b t cs) : W.shape? b = some (t, cs.size) := by
  unfold World.shape?
  have : W.heap[b]? = _ := h
  rw [this]
theorem z1 (n : Nat) : (Builtin.zeroCells (Value.int .i64 0).cells n).size = n := by rw [size_zeroCells]; show n * 1 = n; omega
theorem ol_new {W : World} {arr : Array Value} {cap : Nat} {o : List Int} (hs : arr.size = cap) (hm : cap ≤ maxLen) (hn : o.length ≤ cap) (hc : ∀ (i : Nat) (x : Int), o[i]? = some x → arr[i]? = some (.int .i64 x)) : OL (W.alloc (.cells arr 3)) (.slice (some ⟨W.heap.size, 0, none⟩) o.length cap) o :=
  ol_of (RowAt.new W 3 arr) hs hm hn fun i x hi => by rw [(RowAt.new W 3 arr).cell]; exact hc i x hi
/-- What an Insert at the front leaves. -/
def InsQ (W : World) (v : Value) (o : List Int) (x : Int) (e : Ending) (w' : World) : Prop :=
  ∃ g cap', e = .returned (.slice (some ⟨g, 0, none⟩) (o.length + 1) cap') ∧ OL w' (.slice (some ⟨g, 0, none⟩) (o.length + 1) cap') (x :: o) ∧ Fr (fun k => v.ownBlock = some k) W w' ∧ (v.ownBlock = some g ∨ W.heap.size ≤ g) ∧ g < w'.heap.size
theorem insert_grow0 {W : World} {a : Option Addr} {v : Value} {vb : Nat} {x : Int} (hvs : ∀ (j : Nat) (v : Value), [Value.int .i64 x][j]? = some v → W.cell? ⟨vb, 0 + j, none⟩ = some v) :
    Calls Try.prog 61 #[.slice a 0 0, .int .i64 0, .slice (some ⟨vb, 0, none⟩) 1 1] W (InsQ W v [] x) := by
  have h1v : ∀ v ∈ [Value.int .i64 x], v.oneCell' = true := by simp [Value.oneCell']
  have hA : Calls Try.prog 61 #[.slice a 0 0, .int .i64 0, .slice (some ⟨vb, 0, none⟩) 1 1] W fun e w' => e = .returned (.slice (some ⟨W.heap.size, 0, none⟩) (0 + 1) (grownCap W (0 + 1) 0 3)) ∧ w' = W.drew.alloc (.cells (([] ++ [Value.int .i64 x]).toArray ++ Builtin.zeroCells (Value.int .i64 0).cells (grownCap W (0 + 1) 0 3 - (0 + 1))) 3) :=
    Any2.slices_Insert_int_end_grow insLay a 0 0 vb 0 1 1 [] [.int .i64 x] W (by omega) (by omega) (by omega) (by omega) rfl rfl (fun _ => rfl) (fun _ _ j v hj => by simp at hj) hvs h1v
  refine hA.mono ?_
  have hge := grownCap_ge W (0 + 1) 0 3
  have hle := grownCap_le_maxLen W (0 + 1) 0 3 (by unfold maxLen; omega)
  generalize grownCap W (0 + 1) 0 3 = cp at hge hle ⊢
  rintro e w' ⟨rfl, rfl⟩
  refine ⟨W.heap.size, cp, rfl, ol_new (W := W.drew) (o := [x]) (by rw [Array.size_append, z1]; simp; omega) hle hge (fun i z hi => ?_), (Fr.drew _ _).trans (Fr.alloc _ _ _), .inr (Nat.le_refl _), (RowAt.new W.drew 3 _).lt⟩
  cases i with
  | zero =>
    simp at hi; subst hi
    rw [Array.getElem?_append_left (by simp)]; simp
  | succ i => simp at hi
theorem insert_room0 {W : World} {g c vb : Nat} {x : Int} (h : OL W (.slice (some ⟨g, 0, none⟩) 0 c) []) (hc : 0 < c) (hvs : ∀ (j : Nat) (v : Value), [Value.int .i64 x][j]? = some v → W.cell? ⟨vb, 0 + j, none⟩ = some v) :
    Calls Try.prog 61 #[.slice (some ⟨g, 0, none⟩) 0 c, .int .i64 0, .slice (some ⟨vb, 0, none⟩) 1 1] W (InsQ W (.slice (some ⟨g, 0, none⟩) 0 c) [] x) := by
  have h1v : ∀ v ∈ [Value.int .i64 x], v.oneCell' = true := by simp [Value.oneCell']
  obtain ⟨cur, r1, r2, r3, r4, _⟩ := ol_row h
  have hsome : ∀ j, j < c → (W.cell? ⟨g, j, none⟩).isSome = true := fun j hj => by rw [r1.cell, Array.getElem?_eq_getElem (by omega)]; rfl
  have hA : Calls Try.prog 61 #[.slice (some ⟨g, 0, none⟩) 0 c, .int .i64 0, .slice (some ⟨vb, 0, none⟩) 1 1] W fun e w' => e = .returned (.slice (some ⟨g, 0, none⟩) (0 + 1) c) ∧ w' = W.setCells g (0 + 0) [.int .i64 x] :=
    Any2.slices_Insert_int_end_room insLay g 0 0 c vb 0 1 1 [.int .i64 x] W (by omega) (by omega) (by unfold maxLen at r3; omega) rfl (fun j hj => by rw [show 0 + 0 + j = j by omega]; exact hsome j (by omega)) (fun j hj => r1.frozen _) hvs h1v
  refine hA.mono ?_
  rintro e w' ⟨rfl, rfl⟩
  obtain ⟨cs', q1, q2⟩ := RowAt.setCells [Value.int .i64 x] (0 + 0) r1
  refine ⟨g, c, rfl, ol_of (o := [x]) q1 (by omega) r3 (by show 1 ≤ c; omega) (fun i z hi => ?_), fr_setCells (S := fun k => (Value.slice (some ⟨g, 0, none⟩) 0 c).ownBlock = some k) g rfl _ _ _, .inl rfl, q1.lt⟩
  cases i with
  | zero =>
    simp at hi; subst hi
    have := World.cell?_setCells_in g [Value.int .i64 x] (0 + 0) W (fun j hj => by rw [show 0 + 0 + j = j by omega]; exact hsome j (by simp at hj; omega)) 0 (by simp)
    simpa using this
  | succ i => simp at hi
theorem insert_shift {W : World} {g c vb : Nat} {o : List Int} {x : Int} (h : OL W (.slice (some ⟨g, 0, none⟩) o.length c) o) (h0 : 0 < o.length) (hc : o.length + 1 ≤ c) (hv : RowAt W vb 3 #[.int .i64 x]) (hne : vb ≠ g) :
    Calls Try.prog 61 #[.slice (some ⟨g, 0, none⟩) o.length c, .int .i64 0, .slice (some ⟨vb, 0, none⟩) 1 1] W (InsQ W (.slice (some ⟨g, 0, none⟩) o.length c) o x) := by
  have h1v : ∀ v ∈ [Value.int .i64 x], v.oneCell' = true := by simp [Value.oneCell']
  have hvs : ∀ (j : Nat) (v : Value), [Value.int .i64 x][j]? = some v → W.cell? ⟨vb, 0 + j, none⟩ = some v := fun j v hj => by
    rw [Nat.zero_add, hv.cell]; simpa using hj
  obtain ⟨cur, r1, r2, r3, r4, _⟩ := ol_row h
  have hsome : ∀ j, j < c → (W.cell? ⟨g, j, none⟩).isSome = true := fun j hj => by rw [r1.cell, Array.getElem?_eq_getElem (by omega)]; rfl
  have hA : Calls Try.prog 61 #[.slice (some ⟨g, 0, none⟩) o.length c, .int .i64 0, .slice (some ⟨vb, 0, none⟩) 1 1] W fun e w' => e = .returned (.slice (some ⟨g, 0, none⟩) (o.length + 1) c) ∧ w' = (W.drew.setCells g (0 + (0 + 1)) ((iv o).drop 0)).setCells g (0 + 0) [.int .i64 x] :=
    Any2.slices_Insert_int_shift insLay g 0 o.length c 0 vb 0 1 1 (iv o) [.int .i64 x] W h0 (by omega) hc (by unfold maxLen at r3; omega) hne (iv_len o) rfl
      (fun j v hj => by rw [Nat.zero_add]; exact own_cells h hj) (fun j hj => by rw [Nat.zero_add]; exact hsome j (by omega)) (fun j hj => r1.frozen _) hvs (iv_one o) h1v 3 3 1 cur.size (shape_row hv) (shape_row r1) (by omega) (hv.frozen _) (hv.frozen _)
  refine hA.mono ?_
  rintro e w' ⟨rfl, rfl⟩
  have rd : RowAt W.drew g 3 cur := r1
  obtain ⟨cs1, p1, p2⟩ := RowAt.setCells ((iv o).drop 0) (0 + (0 + 1)) rd
  obtain ⟨cs', q1, q2⟩ := RowAt.setCells [Value.int .i64 x] (0 + 0) p1
  have hs1 : ∀ j, j < c → ((W.drew.setCells g (0 + (0 + 1)) ((iv o).drop 0)).cell? ⟨g, j, none⟩).isSome = true := fun j hj => by rw [p1.cell, Array.getElem?_eq_getElem (by omega)]; rfl
  refine ⟨g, c, rfl, ol_of (o := x :: o) q1 (by omega) r3 (by simpa using hc) (fun i z hi => ?_), (Fr.drew _ _).trans ((fr_setCells (S := fun k => (Value.slice (some ⟨g, 0, none⟩) o.length c).ownBlock = some k) g rfl _ _ _).trans (fr_setCells (S := fun k => (Value.slice (some ⟨g, 0, none⟩) o.length c).ownBlock = some k) g rfl _ _ _)), .inl rfl, q1.lt⟩
  cases i with
  | zero =>
    simp at hi; subst hi
    have := World.cell?_setCells_in g [Value.int .i64 x] (0 + 0) _ (fun j hj => by rw [show 0 + 0 + j = j by omega]; exact hs1 j (by simp at hj; omega)) 0 (by simp)
    simpa using this
  | succ i =>
    have hi : o[i]? = some z := by simpa using hi
    have hil := (List.getElem?_eq_some_iff.1 hi).1
    rw [World.cell?_setCells_out g [Value.int .i64 x] (0 + 0) _ _ (fun _ _ => .inr (by show 0 + 0 + 1 ≤ i + 1; omega))]
    have := World.cell?_setCells_in g ((iv o).drop 0) (0 + (0 + 1)) W.drew (fun j hj => by simp [iv_len] at hj; exact hsome _ (by omega)) i (by simp [iv_len]; exact hil)
    rw [show 0 + (0 + 1) + i = i + 1 by omega] at this
    rw [this]
    rw [List.getElem?_eq_some_iff] at hi
    obtain ⟨_, hi⟩ := hi
    simp [iv, hi]
theorem insert_grow {W : World} {g c vb : Nat} {o : List Int} {x : Int} (h : OL W (.slice (some ⟨g, 0, none⟩) o.length c) o) (h0 : 0 < o.length) (hc : c < o.length + 1) (ho : o.length ≤ 1000) (hv : RowAt W vb 3 #[.int .i64 x]) :
    Calls Try.prog 61 #[.slice (some ⟨g, 0, none⟩) o.length c, .int .i64 0, .slice (some ⟨vb, 0, none⟩) 1 1] W (InsQ W (.slice (some ⟨g, 0, none⟩) o.length c) o x) := by
  have h1v : ∀ v ∈ [Value.int .i64 x], v.oneCell' = true := by simp [Value.oneCell']
  have hvs : ∀ (j : Nat) (v : Value), [Value.int .i64 x][j]? = some v → W.cell? ⟨vb, 0 + j, none⟩ = some v := fun j v hj => by
    rw [Nat.zero_add, hv.cell]; simpa using hj
  obtain ⟨cur, r1, r2, r3, r4, _⟩ := ol_row h
  have hA : Calls Try.prog 61 #[.slice (some ⟨g, 0, none⟩) o.length c, .int .i64 0, .slice (some ⟨vb, 0, none⟩) 1 1] W fun e w' => e = .returned (.slice (some ⟨W.heap.size, 0, none⟩) (o.length + 1) (grownCap W (o.length + 1) c 3)) ∧ w' = (((W.alloc (.cells (((iv o).take 0).toArray ++ Builtin.zeroCells (Value.int .i64 0).cells (o.length + 1 - 0) ++ Builtin.zeroCells (Value.int .i64 0).cells (grownCap W (o.length + 1) c 3 - (o.length + 1))) 3)).drew.setCells W.heap.size 0 [.int .i64 x]).drew).setCells W.heap.size (0 + 1) ((iv o).drop 0) :=
    Any2.slices_Insert_int_grow insLay g 0 o.length c 0 vb 0 1 1 (iv o) [.int .i64 x] W h0 (by omega) r4 hc (by omega) (iv_len o) rfl (fun j v hj => by rw [Nat.zero_add]; exact own_cells h hj) hvs (iv_one o) h1v
  refine hA.mono ?_
  have hge := grownCap_ge W (o.length + 1) c 3
  have hle := grownCap_le_maxLen W (o.length + 1) c 3 (by unfold maxLen; omega)
  generalize grownCap W (o.length + 1) c 3 = cp at hge hle ⊢
  generalize hARR : (((iv o).take 0).toArray ++ Builtin.zeroCells (Value.int .i64 0).cells (o.length + 1 - 0) ++ Builtin.zeroCells (Value.int .i64 0).cells (cp - (o.length + 1))) = arr
  have hsz : arr.size = cp := by rw [← hARR, Array.size_append, Array.size_append, z1, z1]; simp; omega
  rintro e w' ⟨rfl, rfl⟩
  have rd : RowAt (W.alloc (.cells arr 3)).drew W.heap.size 3 arr := RowAt.new W _ _
  obtain ⟨cs1, p1, p2⟩ := RowAt.setCells [Value.int .i64 x] 0 rd
  have p1' : RowAt (((W.alloc (.cells arr 3)).drew.setCells W.heap.size 0 [.int .i64 x]).drew) W.heap.size 3 cs1 := p1
  obtain ⟨cs', q1, q2⟩ := RowAt.setCells ((iv o).drop 0) (0 + 1) p1'
  have hsome : ∀ j, j < cp → ((W.alloc (.cells arr 3)).drew.cell? ⟨W.heap.size, j, none⟩).isSome = true := fun j hj => by rw [rd.cell, Array.getElem?_eq_getElem (by omega)]; rfl
  have hs1 : ∀ j, j < cp → ((((W.alloc (.cells arr 3)).drew.setCells W.heap.size 0 [.int .i64 x]).drew).cell? ⟨W.heap.size, j, none⟩).isSome = true := fun j hj => by rw [p1'.cell, Array.getElem?_eq_getElem (by omega)]; rfl
  have hF : Fr (fun k => k = W.heap.size) W ((((W.alloc (.cells arr 3)).drew.setCells W.heap.size 0 [.int .i64 x]).drew).setCells W.heap.size (0 + 1) ((iv o).drop 0)) := ((Fr.alloc _ _ _).trans (Fr.drew _ _)).trans (((fr_setCells (S := fun k => k = W.heap.size) _ rfl _ _ _).trans (Fr.drew _ _)).trans (fr_setCells (S := fun k => k = W.heap.size) _ rfl _ _ _))
  refine ⟨W.heap.size, cp, rfl, ol_of (o := x :: o) q1 (by omega) hle (by simpa using hge) (fun i z hi => ?_), hF.mono (fun k hk e => by omega), .inr (Nat.le_refl _), q1.lt⟩
  cases i with
  | zero =>
    simp at hi; subst hi
    rw [World.cell?_setCells_out W.heap.size ((iv o).drop 0) (0 + 1) _ _ (fun _ _ => .inl (by show 0 < 0 + 1; omega))]
    have := World.cell?_setCells_in W.heap.size [Value.int .i64 x] 0 (W.alloc (.cells arr 3)).drew (fun j hj => hsome _ (by simp at hj; omega)) 0 (by simp)
    simpa using this
  | succ i =>
    have hi : o[i]? = some z := by simpa using hi
    have hil := (List.getElem?_eq_some_iff.1 hi).1
    have := World.cell?_setCells_in W.heap.size ((iv o).drop 0) (0 + 1) _ (fun j hj => by simp [iv_len] at hj; exact hs1 _ (by omega)) i (by simp [iv_len]; exact hil)
    rw [show 0 + 1 + i = i + 1 by omega] at this
    rw [this]
    rw [List.getElem?_eq_some_iff] at hi
    obtain ⟨_, hi⟩ := hi
    simp [iv, hi]
/-- slices.Insert(o, 0, x). -/
theorem insert0 {W : World} {a : Option Addr} {cap vb : Nat} {o : List Int} {x : Int} (h : OL W (.slice a o.length cap) o) (ho : o.length ≤ 1000) (hv : RowAt W vb 3 #[.int .i64 x]) (hne : (Value.slice a o.length cap).ownBlock ≠ some vb) :
    Calls Try.prog 61 #[.slice a o.length cap, .int .i64 0, .slice (some ⟨vb, 0, none⟩) 1 1] W (InsQ W (.slice a o.length cap) o x) := by
  have hvs : ∀ (j : Nat) (v : Value), [Value.int .i64 x][j]? = some v → W.cell? ⟨vb, 0 + j, none⟩ = some v := fun j v hj => by
    rw [Nat.zero_add, hv.cell]; simpa using hj
  rcases h.2 with ⟨e, h0⟩ | ⟨g, cap', cur, e, _, h3, h4, h5, h6, h7⟩
  · have : o = [] := List.length_eq_zero_iff.1 h0
    subst this
    cases e
    exact insert_grow0 hvs
  · cases e
    by_cases h0 : o = []
    · subst h0
      by_cases hc : cap = 0
      · subst hc; exact insert_grow0 hvs
      · exact insert_room0 h (by omega) hvs
    · have h1 : 0 < o.length := List.length_pos_iff.2 h0
      by_cases hc : o.length + 1 ≤ cap
      · exact insert_shift h h1 hc hv (fun e => hne (by rw [e]; rfl))
      · exact insert_grow h h1 (by omega) ho hv
end Go.Proofs.Ytbnchmhhhildnaa
