/- Interrupts: New. -/
import Derived.Test.YtbnchmhhhildnaaXk
import Derived.Conc.SmallLaws
import Derived.Deep.RegionLaw
namespace Go.Proofs.Ytbnchmhhhildnaa
open Go.RowKit Go.Maps
set_option linter.unusedVariables false

theorem info_in : (Try.prog.info? 66).map (fun i => (i.zero, i.size, i.bytes)) = some (some (.agg #[.chan none, .slice none 0 0, .bool false, .int .i64 0]), 4, 48) := by kernel_rfl
theorem mkchan (w : World) : (Instr.makeChan 39 (.int .i64 0)).run Try.prog w = .ok (.chan (some w.heap.size)) (w.alloc (.chan 0 #[] false 0 0 false)) := by kernel_rfl
def liC (c : Nat) : List Value := [.chan (some c), .slice none 0 0, .bool false, .int .i64 0]
def encL (cs : List Nat) : List Value := cs.flatMap liC
theorem encL_app (cs : List Nat) (c : Nat) : encL (cs ++ [c]) = encL cs ++ liC c := by simp [encL]
theorem encL_get : ∀ (cs : List Nat) (i q : Nat) (c : Nat), cs[i]? = some c → q < 4 → (encL cs)[i * 4 + q]? = (liC c)[q]?
  | a :: r, 0, q, c, h, hq => by
    cases h
    unfold encL
    rw [List.flatMap_cons, Nat.zero_mul, Nat.zero_add, List.getElem?_append_left (by exact hq)]
  | a :: r, i + 1, q, c, h, hq => by
    unfold encL
    rw [List.flatMap_cons, List.getElem?_append_right (by show 4 ≤ _; omega)]
    have : (i + 1) * 4 + q - (liC a).length = i * 4 + q := by show (i + 1) * 4 + q - 4 = _; omega
    rw [this]
    exact encL_get r i q c h hq
/-- What New has made so far: its lines' channels, and the slice of lines. -/
structure NI (W : World) (x : Nat) (v : Value) (cs : List Nat) (wr : World) : Prop where
  row : RowAt wr (x + 3) 63 #[v, .map (some x), .map (some (x + 1)), .map (some (x + 2))]
  own : wr.ownsRow (x + 4) 66 4 v cs.length (encL cs)
  ma : TM wr x []
  mc : GZ kC wr (x + 1) (fun _ => 0)
  mt : GZ kT wr (x + 2) (fun _ => 0)
  fr : Fr No W wr
  chs : ∀ c ∈ cs, x + 3 < c ∧ c < wr.heap.size
  dup : cs.Nodup
theorem NI.app {W wr w1 : World} {x gg cap' : Nat} {v : Value} {cs : List Nat} {o o' : Obj} (h : NI W x v cs wr) (hx : W.heap.size ≤ x)
    (hown : w1.ownsRow (x + 4) 66 4 (.slice (some ⟨gg, 0, none⟩) (cs.length + 1) cap') (cs.length + 1) (encL cs ++ liC wr.heap.size)) (hg : (World.drew ((wr.alloc o).alloc o')).grownBy w1 v.ownBlock) :
    NI W x (.slice (some ⟨gg, 0, none⟩) (cs.length + 1) cap') (cs ++ [wr.heap.size]) (w1.setCell ⟨x + 3, 0, none⟩ (.slice (some ⟨gg, 0, none⟩) (cs.length + 1) cap')) ∧ RowAt w1 (x + 3) 63 #[v, .map (some x), .map (some (x + 1)), .map (some (x + 2))] := by
  have hsz : (World.drew ((wr.alloc o).alloc o')).heap.size = wr.heap.size + 2 := by show ((wr.alloc o).alloc o').heap.size = _; simp
  have hsz1 : wr.heap.size + 2 ≤ w1.heap.size := by rw [← hsz]; exact hg.size
  have hf : Fr (fun k => v.ownBlock = some k) wr w1 := (((Fr.alloc _ _ _).trans (Fr.alloc _ _ _)).trans (Fr.drew _ _)).trans (Fr.grown hg fun k e => e)
  have hk : ∀ k, v.ownBlock = some k → x + 4 ≤ k := fun k e => (h.own.lt k e).1
  have hk2 : x + 4 ≤ gg := (hown.lt gg rfl).1
  have r1 := h.row.fr hf (fun e => by have := hk _ e; omega)
  have hs : Fr (fun k => k = x + 3) w1 (w1.setCell ⟨x + 3, 0, none⟩ (.slice (some ⟨gg, 0, none⟩) (cs.length + 1) cap')) := Fr.set _ _ _ _ rfl
  have h2 : Fr (fun k => x + 3 ≤ k) wr (w1.setCell ⟨x + 3, 0, none⟩ (.slice (some ⟨gg, 0, none⟩) (cs.length + 1) cap')) := (hf.mono fun k _ e => by have := hk k e; omega).trans (hs.mono fun k _ e => by omega)
  refine ⟨⟨r1.set 0 _, ?_, h.ma.fr h2 (by omega), h.mc.fr h2 (by omega), h.mt.fr h2 (by omega), (h.fr.any (S := fun k => x + 3 ≤ k) |>.trans h2).mono (fun k hk e => by omega), fun c hc => ?_, ?_⟩, r1⟩
  · rw [encL_app, List.length_append]
    exact own_fr2 hown hs fun k e e2 => by injection e with e; have e' : gg = k := e; omega
  · have : (w1.setCell ⟨x + 3, 0, none⟩ (.slice (some ⟨gg, 0, none⟩) (cs.length + 1) cap')).heap.size = w1.heap.size := by simp
    rw [this]
    have hrow := h.row.lt
    rcases List.mem_append.1 hc with hc | hc
    · have := h.chs c hc; omega
    · simp at hc; subst hc; omega
  · refine List.nodup_append.2 ⟨h.dup, by simp, fun a ha b hb e => ?_⟩
    simp at hb
    have := h.chs a ha
    omega
theorem own_shape4 {W : World} {lo n : Nat} {t : TypeId} {v : Value} {xs : List Value} (h : W.ownsRow lo t 4 v n xs) : ∃ a c, v = .slice a n c := own_shape h
/-- A controller with these channels. -/
def newS (cs : List Nat) : IS := ⟨cs.map (fun c => ⟨c, [], false, 0⟩), [], fun _ => 0, fun _ => 0⟩
theorem newS_ok {cs : List Nat} (h0 : 0 < cs.length) (h1 : cs.length ≤ 64) : IOk (newS cs) := by
  refine ⟨by simpa [newS] using h0, by simpa [newS] using h1, List.Pairwise.nil, by simp [newS], by simp [newS], fun i l x hl => ?_, fun i l hl => ?_, fun x t ht => (by cases ht), fun k => Int.le_refl _, fun k => by simp [newS], fun i x hx => absurd rfl hx⟩
  · simp [newS] at hl
    obtain ⟨c, _, rfl⟩ := hl
    simp [newS, get_nil]
  · simp [newS] at hl
    obtain ⟨c, _, rfl⟩ := hl
    simp
theorem own_cur {W : World} {lo n s g cap : Nat} {t : TypeId} {xs : List Value} (h : W.ownsRow lo t s (.slice (some ⟨g, 0, none⟩) n cap) n xs) : ∃ cur, W.heap[g]? = some (.cells cur t (0, 0)) ∧ ∀ (i : Nat) (u : Value), xs[i]? = some u → cur[i]? = some u := by
  rcases h.2 with ⟨h1, _⟩ | ⟨g', cap', cur, h1, _, h3, _, _, h6, h7⟩
  · cases h1
  · injection h1 with h1 _ _
    injection h1 with h1
    injection h1 with h1 _ _
    subst h1
    refine ⟨cur, h3, fun i u hi => ?_⟩
    have e : (cur.toList.take (n * s))[i]? = some u := by rw [h7]; exact hi
    rw [List.getElem?_take] at e
    split at e
    · rw [Array.getElem?_toList] at e; exact e
    · cases e
theorem NI.cm {W w : World} {x g cap : Nat} {cs : List Nat} (h : NI W x (.slice (some ⟨g, 0, none⟩) cs.length cap) cs w) (hx : W.heap.size ≤ x) : CM w (fun k => W.heap.size ≤ k ∧ k < w.heap.size) (x + 3) ⟨g, cap, x, x + 1, x + 2, List.replicate cs.length (.slice none 0 0)⟩ (newS cs) := by
  have hg := h.own.lt g rfl
  have hrow := h.row.lt
  refine ⟨by simpa [newS] using h.row, ?_, by simp [newS], fun i l v hl hv => ?_, fun i j v u k hv hu hk _ => ?_, h.ma, h.mc, h.mt, by simp, by simp, by simp, ⟨by omega, hrow⟩, ⟨by show _ ≤ g; omega, hg.2⟩, ⟨hx, h.ma.lt⟩, ⟨by show _ ≤ x + 1; omega, h.mc.lt⟩, ⟨by show _ ≤ x + 2; omega, h.mt.lt⟩, fun i v k hv hk => ?_, fun k hk => hk.2⟩
  · obtain ⟨cur, h1, h2⟩ := own_cur h.own
    refine ⟨cur, h1, fun i l v hl hv => ?_⟩
    have hl : (cs.map (fun c => (⟨c, [], false, 0⟩ : IL)))[i]? = some l := hl
    rw [List.getElem?_map] at hl
    cases hc : cs[i]? with
    | none => rw [hc] at hl; cases hl
    | some c =>
      rw [hc] at hl; cases hl
      have hv := List.mem_of_getElem? hv
      simp at hv
      obtain ⟨_, rfl⟩ := hv
      exact ⟨h2 _ _ (encL_get cs i 0 c hc (by omega)), h2 _ _ (encL_get cs i 1 c hc (by omega)), h2 _ _ (encL_get cs i 2 c hc (by omega)), h2 _ _ (encL_get cs i 3 c hc (by omega))⟩
  · have hv := List.mem_of_getElem? hv
    simp at hv
    obtain ⟨_, rfl⟩ := hv
    have hl : (cs.map (fun c => (⟨c, [], false, 0⟩ : IL)))[i]? = some l := hl
    rw [List.getElem?_map] at hl
    cases hc : cs[i]? with
    | none => rw [hc] at hl; cases hl
    | some c =>
      rw [hc] at hl; cases hl
      exact World.ownsRow_nil _ _ _ _
  · have hv := List.mem_of_getElem? hv
    simp at hv
    obtain ⟨_, rfl⟩ := hv
    cases hk
  · have hv := List.mem_of_getElem? hv
    simp at hv
    obtain ⟨_, rfl⟩ := hv
    cases hk
theorem inew_err {n : Int} (hn : n < 1 ∨ 32 < n) (W : World) : Calls Try.prog 10 #[.int .i64 n] W fun e w' => e = .returned (.tuple #[.pointer none, .int .i64 34]) ∧ W = w' := by
  by_cases h : n < 1
  · clear hn
    have d1 : decide (n < 1) = true := by simpa using h
    clear h
    go_enter Try.func10, Try.ntmps10
    go_wp2
    go_ret2
    exact ⟨rfl, rfl⟩
  · have d1 : decide (n < 1) = false := by simpa using h
    have d2 : decide (32 < n) = true := by simp; omega
    clear hn h
    go_enter Try.func10, Try.ntmps10
    go_wp2
    go_ret2
    exact ⟨rfl, rfl⟩
set_option maxRecDepth 100000 in
set_option maxHeartbeats 4000000 in
theorem inew_ok {n : Nat} (h0 : 0 < n) (h1 : n ≤ 32) (W : World) : Calls Try.prog 10 #[.int .i64 (n : Int)] W fun e w' => ∃ (B : Nat), e = .returned (.tuple #[.pointer (some ⟨B, 0, none⟩), .int .i64 0]) ∧ ∃ (y : LY) (cs : List Nat), cs.length = n ∧ cs.Nodup ∧ (∀ c ∈ cs, W.heap.size ≤ c ∧ c < w'.heap.size) ∧ CM w' (fun k => W.heap.size ≤ k ∧ k < w'.heap.size) B y (newS cs) ∧ Fr No W w' := by
  have d1 : decide ((n : Int) < 1) = false := by simp; omega
  have d2 : decide (32 < (n : Int)) = false := by simp; omega
  have n32 : (n : Int) ≤ 32 := by omega
  have HN0 := Lib.hid h0
  have HN1 := Lib.hid h1
  have hmm := @run_makeMap Try.prog
  have hmk := mkchan
  clear h0 h1
  obtain ⟨it, hi0, hz0, hz1, hz2⟩ := info_parts info_in
  have HT0 := Lib.hid hi0
  have HT1 := Lib.hid hz0
  have HT2 := Lib.hid hz1
  have HT3 := Lib.hid hz2
  clear hi0 hz0 hz1 hz2
  have HI0 : Hid (NI W W.heap.size (.slice none 0 0) [] ((((W.alloc (.map #[] 0)).alloc (.map #[] 0)).alloc (.map #[] 0)).alloc (.cells #[.slice none 0 0, .map (some W.heap.size), .map (some (W.heap.size + 1)), .map (some (W.heap.size + 2))] 63))) := by
    have e1 : (W.alloc (.map #[] 0)).heap.size = W.heap.size + 1 := by simp
    have e2 : ((W.alloc (.map #[] 0)).alloc (.map #[] 0)).heap.size = W.heap.size + 2 := by simp
    have e3 : (((W.alloc (.map #[] 0)).alloc (.map #[] 0)).alloc (.map #[] 0)).heap.size = W.heap.size + 3 := by simp
    have f1 : ∀ w o, Fr No w (w.alloc o) := fun w o => Fr.alloc _ _ _
    have t1 := GZ.new kC (W.alloc (.map #[] 0))
    rw [e1] at t1
    have t2 := GZ.new kT ((W.alloc (.map #[] 0)).alloc (.map #[] 0))
    rw [e2] at t2
    have t3 := RowAt.new (((W.alloc (.map #[] 0)).alloc (.map #[] 0)).alloc (.map #[] 0)) 63 #[.slice none 0 0, .map (some W.heap.size), .map (some (W.heap.size + 1)), .map (some (W.heap.size + 2))]
    rw [e3] at t3
    exact ⟨t3, World.ownsRow_nil _ _ _ _, (((TM.new W).fr (f1 _ _) id).fr (f1 _ _) id).fr (f1 _ _) id, (t1.fr (f1 _ _) id).fr (f1 _ _) id, t2.fr (f1 _ _) id, (((f1 _ _).trans (f1 _ _)).trans (f1 _ _)).trans (f1 _ _), by simp, List.nodup_nil⟩
  go_enter Try.func10, Try.ntmps10
  go_wp2
  go_loopw [17] (fun vi wr => ∃ (cs : List Nat) (v : Value), vi = .int .i64 cs.length ∧ Hid (cs.length ≤ n ∧ NI W W.heap.size v cs wr)) (fun vi _ => n - (intOf vi).toNat)
  case atStart => exact ⟨[], _, rfl, Nat.zero_le _, HI0.out⟩
  case round =>
    obtain ⟨cs, v, rfl, HR⟩ := hrel
    have i0 : (0 : Int) ≤ cs.length := by omega
    have i2 : (cs.length : Int) ≤ 1000 := by have := HR.out.1; have := HN1.out; omega
    by_cases hi : cs.length < n
    · have i1 : (cs.length : Int) < (n : Nat) := by omega
      obtain ⟨av, cv, hv⟩ := own_shape HR.out.2.own
      subst hv
      have c0 : wr.cell? ⟨W.heap.size + 3, 0, none⟩ = some (.slice av cs.length cv) := HR.out.2.row.cell 0
      have hxx : ∀ o o' j, ((wr.alloc o).alloc o').cell? ⟨W.heap.size + 3, j, none⟩ = wr.cell? ⟨W.heap.size + 3, j, none⟩ := fun o o' j => World.cell?_of_block ((heap_alloc_old _ _ (by have := HR.out.2.row.lt; simp; omega)).trans (heap_alloc_old _ _ HR.out.2.row.lt))
      have hx1 : ∀ o j, (wr.alloc o).cell? ⟨W.heap.size + 3, j, none⟩ = wr.cell? ⟨W.heap.size + 3, j, none⟩ := fun o j => World.cell?_of_block (heap_alloc_old _ _ HR.out.2.row.lt)
      have HONE : Hid (∀ u ∈ liC wr.heap.size, u.oneCell' = true) := by show ∀ u ∈ _, _; simp [liC, Value.oneCell']
      have HMAX : Hid (cs.length + 1 ≤ maxLen) := by have := HN1.out; show _ ≤ _; unfold maxLen; omega
      have HBYT : Hid ((cs.length + 1) * 48 ≤ 140737488355328) := by have := HN1.out; show _ ≤ _; omega
      have HSZ : Hid ((World.drew ((wr.alloc (.chan 0 #[] false 0 0 false)).alloc (.cells #[.chan (some wr.heap.size), .slice none 0 0, .bool false, .int .i64 0] 66))).heap.size = wr.heap.size + 1 + 1) := by show ((wr.alloc _).alloc _).heap.size = _; simp
      have HLO : Hid (W.heap.size + 4 ≤ (World.drew ((wr.alloc (.chan 0 #[] false 0 0 false)).alloc (.cells #[.chan (some wr.heap.size), .slice none 0 0, .bool false, .int .i64 0] 66))).heap.size) := by have := HR.out.2.row.lt; rw [HSZ.out]; show _ ≤ _; omega
      have HNW : Hid (∀ j u, (liC wr.heap.size)[j]? = some u → (World.drew ((wr.alloc (.chan 0 #[] false 0 0 false)).alloc (.cells #[.chan (some wr.heap.size), .slice none 0 0, .bool false, .int .i64 0] 66))).cell? ((⟨wr.heap.size + 1, 0, none⟩ : Addr).add j) = some u) := fun j u hj => by
        have hh := RowAt.new (wr.alloc (.chan 0 #[] false 0 0 false)) 66 #[.chan (some wr.heap.size), .slice none 0 0, .bool false, .int .i64 0]
        rw [show (wr.alloc (.chan 0 #[] false 0 0 false)).heap.size = wr.heap.size + 1 from by simp] at hh
        exact World.news_of_block hh j u hj
      have HOW : Hid (((wr.alloc (.chan 0 #[] false 0 0 false)).alloc (.cells #[.chan (some wr.heap.size), .slice none 0 0, .bool false, .int .i64 0] 66)).ownsRow (W.heap.size + 4) 66 4 (.slice av cs.length cv) cs.length (encL cs)) := own_fr2 HR.out.2.own ((Fr.alloc No _ _).trans (Fr.alloc No _ _)) (fun _ _ => id)
      have HAPP : Hid (∀ gg cap' w1, w1.ownsRow (W.heap.size + 4) 66 4 (.slice (some ⟨gg, 0, none⟩) (cs.length + 1) cap') (cs.length + 1) (encL cs ++ liC wr.heap.size) → (World.drew ((wr.alloc (.chan 0 #[] false 0 0 false)).alloc (.cells #[.chan (some wr.heap.size), .slice none 0 0, .bool false, .int .i64 0] 66))).grownBy w1 (Value.slice av cs.length cv).ownBlock → NI W W.heap.size (.slice (some ⟨gg, 0, none⟩) (cs.length + 1) cap') (cs ++ [wr.heap.size]) (w1.setCell ⟨W.heap.size + 3, 0, none⟩ (.slice (some ⟨gg, 0, none⟩) (cs.length + 1) cap')) ∧ w1.cell? ⟨W.heap.size + 3, 0, none⟩ = some (.slice av cs.length cv) ∧ w1.frozen? ⟨W.heap.size + 3, 0, none⟩ = false) := fun gg cap' w1 hown hgrow => by
        obtain ⟨a1, a2⟩ := HR.out.2.app (Nat.le_refl _) hown hgrow
        exact ⟨a1, a2.cell 0, a2.frozen 0⟩
      have HMS : Hid (n - (intOf (Value.int IntKind.i64 ((cs.length : Int) + 1))).toNat < n - (intOf (Value.int IntKind.i64 (cs.length : Int))).toNat) := by
        show _ < _
        simp only [intOf]
        omega
      have HI : Hid (cs.length + 1 ≤ n) := hi
      clear hi
      go_upto_region 6 with (fail)
      go_region_law
        ((refine step_append_lies (World.drew ((wr.alloc (.chan 0 #[] false 0 0 false)).alloc (.cells #[.chan (some wr.heap.size), .slice none 0 0, .bool false, .int .i64 0] 66))) rfl (.tmp 23) (.tmp 26) 61 rfl (W.heap.size + 4) 66 it (.agg #[.chan none, .slice none 0 0, .bool false, .int .i64 0]) 4 48 Try.underlying61 HT0.out HT1.out HT2.out HT3.out rfl (by decide) (.slice av cs.length cv) cs.length (encL cs) rfl HOW.out.drew ⟨wr.heap.size + 1, 0, none⟩ 1 1 (liC wr.heap.size) rfl rfl HNW.out HONE.out (by decide) HMAX.out HBYT.out HLO.out (wr.heap.size + 1 + 1) HSZ.out ?_; intro gg cap' w1 hown1 hgrow hat hlt2; have HAP := Lib.hid (HAPP.out gg cap' w1 hown1 hgrow); have c3' : w1.cell? ⟨W.heap.size + 3, 0, none⟩ = some (.slice av cs.length cv) := HAP.out.2.1; have f3' : w1.frozen? ⟨W.heap.size + 3, 0, none⟩ = false := HAP.out.2.2; clear hown1 hgrow hat hlt2))
      all_goals go_wp2
      all_goals go_roundw
      all_goals first
        | exact ⟨cs ++ [wr.heap.size], _, by simp, by simpa using HI.out, HAP.out.1⟩
        | exact HMS.out
    · have hle : cs.length = n := by have := HR.out.1; omega
      have i1 : ¬ (cs.length : Int) < (n : Nat) := by omega
      obtain ⟨g, cap, hv⟩ := own_slice2 HR.out.2.own (by have := HN0.out; omega)
      have HH := HR.out.2
      subst hv
      have HC := Lib.hid (HH.cm (Nat.le_refl _))
      have HF := Lib.hid HH.fr
      have HD := Lib.hid HH.dup
      have HX := Lib.hid HH.chs
      have HE := Lib.hid hle
      clear HH hle hi
      go_wp2
      go_ret2
      exact ⟨_, rfl, _, cs, HE.out, HD.out, fun c hc => by have := HX.out c hc; omega, HC.out, HF.out⟩
end Go.Proofs.Ytbnchmhhhildnaa
