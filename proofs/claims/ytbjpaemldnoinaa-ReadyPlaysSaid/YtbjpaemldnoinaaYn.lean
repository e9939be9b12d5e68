/- The contract of Best. -/
import Derived.Test.YtbjpaemldnoinaaYm
import Derived.Laws.ResultCell
namespace Go.Proofs.Ytbjpaemldnoinaa
open Go.RowKit Go.Shelf
set_option linter.unusedVariables false
attribute [local go_sem] Oper.semAt_some

/-- The first thread of a list whose mask has the processor's bit. -/
def okOn (mk : Nat → Nat) (c t : Nat) : Bool := mk t / 2 ^ c % 2 == 1
def bestOf (mk : Nat → Nat) (c : Nat) (l : List Nat) : Option Nat := l.find? (okOn mk c)
def bestV : Option Nat → Value
  | none => .tuple #[.int .i64 0, .int .i64 22]
  | some t => .tuple #[.int .i64 t, .int .i64 0]
theorem mask_bit (m c : Nat) (hm : m < 256) : (bits .and .i64 ((m : Int) / 2 ^ c) 1 == 1) = (m / 2 ^ c % 2 == 1) := by
  have e : ((m : Int) / 2 ^ c) = ((m / 2 ^ c : Nat) : Int) := by simp
  have hlt : m / 2 ^ c < 256 := Nat.lt_of_le_of_lt (Nat.div_le_self _ _) hm
  rw [e]
  generalize m / 2 ^ c = y at hlt
  revert y
  decide +kernel
theorem run_loadVar_cell {P : Program} (w : World) (g : Nat) (ty : TypeId) (d : TypeDesc) (v : Value) (hc : w.cell? ⟨g, 0, none⟩ = some v) (hu : P.underlying ty = some d) (hd : (match d with | .struct _ | .array _ _ => true | _ => false) = false) :
    (loadVar ty ⟨g, 0, none⟩).run P w = .ok v w := by
  have hagg : (isAgg ty).run P w = .ok false w := by
    unfold isAgg
    rw [Sem.run_bind, run_underlying hu w]
    cases d <;> simp_all
  simp [loadVar, Sem.run_bind, hagg, go_sem, hc]
theorem results_two_cells {P : Program} {fn : Func} {p q : Tmp} {ty ty2 : TypeId} (h : fn.results = #[.cell p ty, .cell q ty2]) (tmps : Array Value) (w : World) (g g2 : Nat) (v v2 : Value) (d d2 : TypeDesc)
    (hp : tmps.getD p undef = .pointer (some ⟨g, 0, none⟩)) (hg : w.cell? ⟨g, 0, none⟩ = some v)
    (hu : P.underlying ty = some d) (hd : (match d with | .struct _ | .array _ _ => true | _ => false) = false)
    (hp2 : tmps.getD q undef = .pointer (some ⟨g2, 0, none⟩)) (hg2 : w.cell? ⟨g2, 0, none⟩ = some v2)
    (hu2 : P.underlying ty2 = some d2) (hd2 : (match d2 with | .struct _ | .array _ _ => true | _ => false) = false) :
    (results fn tmps).run P w = .ok (.tuple #[v, v2]) w := by
  have hp' : tmps[p]?.getD undef = .pointer (some ⟨g, 0, none⟩) := by simpa using hp
  have hq' : tmps[q]?.getD undef = .pointer (some ⟨g2, 0, none⟩) := by simpa using hp2
  simp [results, h, hp', hq', asAddr, run_loadVar_cell w g ty d v hg hu hd, run_loadVar_cell w g2 ty2 d2 v2 hg2 hu2 hd2]

theorem best_nil (c : Int) (w : World) : Calls Try.prog 33 #[.pointer none, .int .i64 c] w fun e w' => e = .returned (.tuple #[.int .i64 0, .int .i64 35]) ∧ w.grownBy w' none := by
  go_enter Try.func33, Try.ntmps33
  go_wp2
  refine bodyPost_ret (results_two_cells rfl _ _ (w.heap.size + 1 + 1) (w.heap.size + 1 + 1 + 1) (.int .i64 0) (.int .i64 35) _ _ rfl (by go_simp) Try.underlying3 rfl rfl (by go_simp) Try.underlying43 rfl) rfl ?_
  exact ⟨rfl, grown_trans (grown_trans (grown_trans (grown_alloc _ _ _) (grown_alloc _ _ _)) (grown_alloc _ _ _)) (grown_alloc _ _ _)⟩
theorem best_bad (B : Nat) (c : Int) (w : World) (hc : isPro c = false) : Calls Try.prog 33 #[.pointer (some ⟨B, 0, none⟩), .int .i64 c] w fun e w' => e = .returned (.tuple #[.int .i64 0, .int .i64 34]) ∧ w.grownBy w' none := by
  have HP : ∀ W, Hid (Calls Try.prog 71 #[.int .i64 c] W fun e w' => e = .returned (.bool false) ∧ W = w') := fun W => by have := isprocessor_any c W; rwa [hc] at this
  clear hc
  go_enter Try.func33, Try.ntmps33
  go_wp2_with (go_at_call 71; refine (HP _).out.mono ?_; rintro e w' ⟨rfl, rfl⟩)
  refine bodyPost_ret (results_two_cells rfl _ _ (w.heap.size + 1 + 1) (w.heap.size + 1 + 1 + 1) (.int .i64 0) (.int .i64 34) _ _ rfl (by go_simp) Try.underlying3 rfl rfl (by go_simp) Try.underlying43 rfl) rfl ?_
  exact ⟨rfl, grown_trans (grown_trans (grown_trans (grown_alloc _ _ _) (grown_alloc _ _ _)) (grown_alloc _ _ _)) (grown_alloc _ _ _)⟩

/-- What holds at the head of a round of Best's loop. -/
def BeR (q : QS) (B s : Nat) (w0 : World) (c : Nat) (v e : Int) (W : World) : Prop :=
  RowAt W s 24 #[.pointer (some ⟨B, 0, none⟩)] ∧ RowAt W (s + 1) 3 #[.int .i64 c] ∧ RowAt W (s + 1 + 1) 3 #[.int .i64 v] ∧ RowAt W (s + 1 + 1 + 1) 43 #[.int .i64 e] ∧ QAt W B q ∧ Below s w0 W
theorem BeR.own {q : QS} {B s : Nat} {w0 : World} {c : Nat} {v e : Int} {N : Nat} (hs : s ≤ N) {X Y : World} {row : Option Nat} (h : BeR q B s w0 c v e X) (hg : X.grownBy Y row) (hr : ∀ r, row = some r → N ≤ r ∧ ∃ o : Obj, X.heap[r]? = some o ∧ o.isCells = false) : BeR q B s w0 c v e Y :=
  ⟨h.1.nc hg hr, h.2.1.nc hg hr, h.2.2.1.nc hg hr, h.2.2.2.1.nc hg hr, RowAt.nc h.2.2.2.2.1 hg hr, h.2.2.2.2.2.grown hg (by have := h.1.lt; omega) (fun k e => Nat.le_trans hs (hr k e).1)⟩

theorem alloc5 (w : World) (t1 t2 t3 t4 t5 : TypeId) (c1 c2 c3 c4 c5 : Array Value) :
    let W := ((((w.alloc (.cells c1 t1)).alloc (.cells c2 t2)).alloc (.cells c3 t3)).alloc (.cells c4 t4)).alloc (.cells c5 t5)
    RowAt W w.heap.size t1 c1 ∧ RowAt W (w.heap.size + 1) t2 c2 ∧ RowAt W (w.heap.size + 1 + 1) t3 c3 ∧ RowAt W (w.heap.size + 1 + 1 + 1) t4 c4 ∧ RowAt W (w.heap.size + 1 + 1 + 1 + 1) t5 c5 ∧ W.heap.size = w.heap.size + 1 + 1 + 1 + 1 + 1 ∧ w.grownBy W none := by
  have a : ∀ {X : World} {i : Nat} {t t' : TypeId} {cs cs' : Array Value}, RowAt X i t cs → RowAt (X.alloc (.cells cs' t')) i t cs := fun h => h.kept (grown_alloc _ _ none) (by simp)
  have n0 := RowAt.new w t1 c1
  have n1 := RowAt.new (w.alloc (.cells c1 t1)) t2 c2
  have n2 := RowAt.new ((w.alloc (.cells c1 t1)).alloc (.cells c2 t2)) t3 c3
  have n3 := RowAt.new (((w.alloc (.cells c1 t1)).alloc (.cells c2 t2)).alloc (.cells c3 t3)) t4 c4
  have n4 := RowAt.new ((((w.alloc (.cells c1 t1)).alloc (.cells c2 t2)).alloc (.cells c3 t3)).alloc (.cells c4 t4)) t5 c5
  simp only [World.size_alloc] at n1 n2 n3 n4
  exact ⟨a (a (a (a n0))), a (a (a n1)), a (a n2), a n3, n4, by simp only [World.size_alloc], grown_trans (grown_trans (grown_trans (grown_trans (grown_alloc _ _ _) (grown_alloc _ _ _)) (grown_alloc _ _ _)) (grown_alloc _ _ _)) (grown_alloc _ _ _)⟩
theorem below_grown {A B : World} (h : A.grownBy B none) : Below A.heap.size A B := ⟨h.os, h.tape, h.output, h.size, fun k hk => h.block k hk (by simp)⟩
theorem keep2 {W : World} {a b k : Nat} {v e : Value} {o : Obj} (h1 : k ≠ a) (h2 : k ≠ b) (h : W.heap[k]? = some o) : ((W.setCell ⟨a, 0, none⟩ v).setCell ⟨b, 0, none⟩ e).heap[k]? = some o := by
  rw [heap_setCell_other _ _ _ _ h2, heap_setCell_other _ _ _ _ h1]; exact h
theorem size2 (W : World) (a b : Nat) (v e : Value) : W.heap.size ≤ ((W.setCell ⟨a, 0, none⟩ v).setCell ⟨b, 0, none⟩ e).heap.size := Nat.le_trans (grown_set W a 0 v).size (grown_set _ b 0 e).size
theorem BeR.set {q : QS} {B s : Nat} {w0 W : World} {c : Nat} {v e : Int} (h : BeR q B s w0 c v e W) (hB : B < s) (v' e' : Int) : BeR q B s w0 c v' e' ((W.setCell ⟨s + 1 + 1, 0, none⟩ (.int .i64 v')).setCell ⟨s + 1 + 1 + 1, 0, none⟩ (.int .i64 e')) := by
  obtain ⟨h1, h2, h3, h4, h5, h6⟩ := h
  refine ⟨keep2 (by omega) (by omega) h1, keep2 (by omega) (by omega) h2, ((h3.set 0 (.int .i64 v')).other (by omega) 0 _), ((h4.other (by omega) 0 _).set 0 (.int .i64 e')), keep2 (by omega) (by omega) h5, ?_⟩
  have hl := h1.lt
  exact (h6.grown (grown_set W _ 0 _) (by omega) (fun k e => by cases e; omega)).grown (grown_set _ _ 0 _) (by have := (grown_set W (s + 1 + 1) 0 (.int .i64 v')).size; omega) (fun k e => by cases e; omega)
theorem BeR.out {q : QS} {B : Nat} {w0 W : World} {c : Nat} {v e : Int} (h : BeR q B w0.heap.size w0 c v e W) {tmps : Array Value} (h4 : tmps.getD 4 undef = .pointer (some ⟨w0.heap.size + 1 + 1, 0, none⟩)) (h5 : tmps.getD 5 undef = .pointer (some ⟨w0.heap.size + 1 + 1 + 1, 0, none⟩)) :
    (results Try.f33 tmps).run Try.prog W = .ok (.tuple #[.int .i64 v, .int .i64 e]) W ∧ w0.grownBy W none :=
  ⟨results_two_cells rfl _ _ _ _ _ _ _ _ h4 (h.2.2.1.cell 0) Try.underlying3 rfl h5 (h.2.2.2.1.cell 0) Try.underlying43 rfl, grown_below h.2.2.2.2.2⟩
theorem find_none {f : Nat → Bool} {l : List Nat} (h : ∀ t ∈ l, f t = false) : l.find? f = none := List.find?_eq_none.2 fun x hx => by simp [h x hx]
theorem find_first {f : Nat → Bool} {p t : List Nat} {x : Nat} (h : ∀ t ∈ p, f t = false) (hx : f x = true) : (p ++ [x] ++ t).find? f = some x := by
  rw [List.find?_append, List.find?_append, find_none h]
  simp [hx]

set_option maxRecDepth 100000 in
set_option maxHeartbeats 4000000 in
theorem best_in (B c : Nat) (q : QS) (ls : Nat → List Nat) (hi : QInv q ls) (hc : c < 8) (w : World) (hq : QAt w B q) : Calls Try.prog 33 #[.pointer (some ⟨B, 0, none⟩), .int .i64 c] w fun e w' => e = .returned (bestV (bestOf q.mask c (order ls))) ∧ w.grownBy w' none := by
  have HP : ∀ W, Hid (Calls Try.prog 71 #[.int .i64 c] W fun e w' => e = .returned (.bool true) ∧ W = w') := fun W => by have := isprocessor_any c W; rwa [(isPro_iff c).2 ⟨by omega, by omega⟩] at this
  have HI := Lib.hid hi
  have HQ := Lib.hid hq
  have HC := Lib.hid hc
  clear hi hq hc
  refine (callsIn_wide (n := 8)).1 ?_
  refine callsIn_of_wp_marks Try.func33 rfl trivial ?_ rfl
  simp only [Try.ntmps33, List.size_toArray, List.length_cons, List.length_nil, Nat.reduceAdd, Nat.reduceSub, Array.replicate_succ, Array.replicate_zero, List.push_toArray, List.append_toArray, List.nil_append, List.cons_append]
  gi_wp2_with (first
    | (refine ⟨trivial, ?_⟩; gi_at_call 71; refine (callsIn_wide.2 (HP _).out).mono ?_; rintro e w' ⟨rfl, rfl⟩)
    | (refine ⟨trivial, ?_⟩; gi_at_call 48; refine (callsIn_wide.2 (inorder_any B _)).mono ?_; rintro e w' ⟨rfl, rfl⟩))
  have HA := Lib.hid (alloc5 w 24 3 3 43 24 #[.pointer (some ⟨B, 0, none⟩)] #[.int .i64 c] #[.int .i64 0] #[.int .i64 0] #[.pointer (some ⟨B, 0, none⟩)])
  generalize World.alloc (World.alloc (World.alloc (World.alloc (World.alloc w _) _) _) _) _ = W5 at HA ⊢
  have HR : Hid (BeR q B w.heap.size w c 0 0 W5) := ⟨HA.out.1, HA.out.2.1, HA.out.2.2.1, HA.out.2.2.2.1, QAt.kept HQ.out HA.out.2.2.2.2.2.2 (by simp), below_grown HA.out.2.2.2.2.2.2⟩
  have HBL := Lib.hid HQ.out.lt
  have hs5 := HA.out.2.2.2.2.2.1
  refine wpIn_rangeWord rfl (by omega) (gf := 84) (lb := #[.pointer (some ⟨w.heap.size + 1 + 1 + 1 + 1, 0, none⟩)]) rfl trivial (enters_of Try.func84 (by kernel_rfl) rfl)
    (inorder1_word 7 (by omega) B (w.heap.size + 1 + 1 + 1 + 1) q ls HI.out W5 HA.out.2.2.2.2.1 HR.out.2.2.2.2.1) KpO.t ?kb (fun _ => rfl)
    (fun pre W => (∀ t ∈ pre, okOn q.mask c t = false) ∧ BeR q B w.heap.size w c 0 0 W)
    (fun cc pre W => cc = .ret ∧ ∃ p x, pre = p ++ [x] ∧ (∀ t ∈ p, okOn q.mask c t = false) ∧ okOn q.mask c x = true ∧ BeR q B w.heap.size w c x 0 W)
    (fun s W W' row h hg hr => ⟨h.1, h.2.own (by omega) hg hr⟩) (fun cc s W W' row h hg hr => by
      obtain ⟨h0, p, x, h1, h2, h3, h4⟩ := h
      exact ⟨h0, p, x, h1, h2, h3, h4.own (by omega) hg hr⟩) ⟨(fun t h => by cases h), HR.out⟩
    (fun x => { tmps := #[.pointer (some ⟨B, 0, none⟩), .int .i64 c, .pointer (some ⟨w.heap.size, 0, none⟩), .pointer (some ⟨w.heap.size + 1, 0, none⟩), .pointer (some ⟨w.heap.size + 1 + 1, 0, none⟩), .pointer (some ⟨w.heap.size + 1 + 1 + 1, 0, none⟩), .int .i64 (x : Int), .bool false, .pointer (some ⟨B, 0, none⟩), .bool false, .bool false, .int .i64 c, .bool true, .bool false, .pointer (some ⟨B, 0, none⟩), .func (.func 84) #[] #[.pointer (some ⟨w.heap.size + 1 + 1 + 1 + 1, 0, none⟩)], .int .i64 (x : Int), undef, undef, undef, undef, undef, undef, undef, undef, undef, undef, undef], defers := [] }) ?assign ?body ?done ?stop
  case kb =>
    intro W o o' ho hc
    refine ⟨(grownBy_putObj' W _ o').size, fun k o2 hk h2 => (World.putObj_heap_other (by have := HBL.out; omega)).trans h2⟩
  case assign =>
    intro l2 x W K hK
    gi_wp2
    exact hK
  case body =>
    rintro l2 pre x W ⟨hn, hR⟩ hp
    have hx : x < 256 := by
      have : x ∈ order ls := hp.subset (by simp)
      obtain ⟨p, _, hm⟩ := (order_mem 256).1 this
      exact (HI.out.r.mem p x hm).1
    have HN := Lib.hid hn
    have HR5 := Lib.hid hR
    have HX := Lib.hid hx
    have c1 : W.cell? ⟨w.heap.size, 0, none⟩ = some (.pointer (some ⟨B, 0, none⟩)) := hR.1.cell 0
    have c2 : W.cell? ⟨w.heap.size + 1, 0, none⟩ = some (.int .i64 c) := hR.2.1.cell 0
    have c3 : W.cell? ⟨B, 1028 + x, none⟩ = some (.int .i64 (q.mask x)) := hR.2.2.2.2.1.mask x hx
    have x0 : (0 : Int) ≤ x := by omega
    have x1 : (x : Int) < 256 := by omega
    have y0 : (0 : Int) ≤ c := by omega
    have y1 : (c : Int) < 64 := by have := HC.out; omega
    have hmx : Try.prog.follows .mixedOrders = true := by kernel_rfl
    have f3 : W.frozen? ⟨w.heap.size + 1 + 1, 0, none⟩ = false := hR.2.2.1.frozen 0
    have f4 : W.frozen? ⟨w.heap.size + 1 + 1 + 1, 0, none⟩ = false := hR.2.2.2.1.frozen 0
    have c4 : W.cell? ⟨w.heap.size + 1 + 1, 0, none⟩ = some (.int .i64 0) := hR.2.2.1.cell 0
    have c5 : W.cell? ⟨w.heap.size + 1 + 1 + 1, 0, none⟩ = some (.int .i64 0) := hR.2.2.2.1.cell 0
    have HS5 := Lib.hid hs5
    clear hn hR hx hp hs5
    have hbit : (bits .and .i64 ((q.mask x : Int) / 2 ^ c) 1 == 1) = okOn q.mask c x := mask_bit (q.mask x) c (HI.out.maskl x)
    gi_wp2
    refine wpIn_calmS (fun a' w' => a' = { tmps := #[.pointer (some ⟨B, 0, none⟩), .int .i64 c, .pointer (some ⟨w.heap.size, 0, none⟩), .pointer (some ⟨w.heap.size + 1, 0, none⟩), .pointer (some ⟨w.heap.size + 1 + 1, 0, none⟩), .pointer (some ⟨w.heap.size + 1 + 1 + 1, 0, none⟩), .int .i64 (x : Int), .bool false, .pointer (some ⟨B, 0, none⟩), .bool false, .bool false, .int .i64 c, .bool true, .bool false, .pointer (some ⟨B, 0, none⟩), .func (.func 84) #[] #[.pointer (some ⟨w.heap.size + 1 + 1 + 1 + 1, 0, none⟩)], .int .i64 (x : Int), .pointer (some ⟨B, 0, none⟩), .int .i64 (x : Int), .pointer (some ⟨B, 0, none⟩), .pointer (some ⟨B, 1028, none⟩), .pointer (some ⟨B, 1028 + x, none⟩), .int .i64 (q.mask x), .int .i64 c, .int .i64 ((q.mask x : Int) / 2 ^ c), .int .i64 (bits .and .i64 ((q.mask x : Int) / 2 ^ c) 1), .bool (okOn q.mask c x), undef], defers := [] } ∧ w' = W.drew) ?_ ?_
    · gi_region_with_o (fail)
      all_goals exact ⟨rfl, rfl⟩
    rintro _ _ ⟨rfl, rfl⟩
    have HRD := Lib.hid (HR5.out.own (row := none) (N := w.heap.size) (Nat.le_refl _) (grown_drew W none) (fun r e => by cases e))
    have HKD : Hid (∀ (k : Nat) (o : Obj), W.heap[k]? = some o → W.drew.heap[k]? = some o) := fun k o h => h
    have HZD : Hid (W.heap.size ≤ W.drew.heap.size) := Nat.le_refl _
    clear c1 c2 c3 c4 c5 f3 f4 x0 x1 y0 y1 hbit
    generalize W.drew = V at HRD HKD HZD ⊢
    cases hb : okOn q.mask c x with
    | true =>
      have HB := Lib.hid hb
      have f3 : V.frozen? ⟨w.heap.size + 1 + 1, 0, none⟩ = false := HRD.out.2.2.1.frozen 0
      have f4 : V.frozen? ⟨w.heap.size + 1 + 1 + 1, 0, none⟩ = false := HRD.out.2.2.2.1.frozen 0
      have c4 : V.cell? ⟨w.heap.size + 1 + 1, 0, none⟩ = some (.int .i64 0) := HRD.out.2.2.1.cell 0
      have c5 : V.cell? ⟨w.heap.size + 1 + 1 + 1, 0, none⟩ = some (.int .i64 0) := HRD.out.2.2.2.1.cell 0
      clear hb
      gi_wp2
      have hs5 := HS5.out
      have hbl := HBL.out
      refine ⟨⟨Nat.le_trans HZD.out (size2 V _ _ _ _), fun k o hk h2 _ => keep2 (by omega) (by omega) (HKD.out k o h2)⟩, ⟨Nat.le_trans HZD.out (size2 V _ _ _ _), fun k o hk h2 => keep2 (by omega) (by omega) (HKD.out k o h2)⟩, rfl, pre, x, rfl, HN.out, HB.out, HRD.out.set HBL.out x 0⟩
    | false =>
      have HB := Lib.hid hb
      clear hb
      gi_wp2
      refine ⟨⟨HZD.out, fun k o hk h2 _ => HKD.out k o h2⟩, ⟨HZD.out, fun k o hk h2 => HKD.out k o h2⟩, ?_, HRD.out⟩
      intro t ht
      rcases List.mem_append.1 ht with h | h
      · exact HN.out t h
      · rw [List.mem_singleton.1 h]; exact HB.out
  case done =>
    rintro D xs W hD rfl ⟨hn, hR⟩ hm
    have HBO : Hid (bestOf q.mask c (order ls) = none) := find_none hn
    have HR5 := Lib.hid hR
    have HM := Lib.hid hm
    have HD : Hid (w.heap.size + 1 + 1 + 1 < D) := by show _ < _; omega
    have f3 : W.frozen? ⟨w.heap.size + 1 + 1, 0, none⟩ = false := hR.2.2.1.frozen 0
    have f4 : W.frozen? ⟨w.heap.size + 1 + 1 + 1, 0, none⟩ = false := hR.2.2.2.1.frozen 0
    have c4 : W.cell? ⟨w.heap.size + 1 + 1, 0, none⟩ = some (.int .i64 0) := hR.2.2.1.cell 0
    have c5 : W.cell? ⟨w.heap.size + 1 + 1 + 1, 0, none⟩ = some (.int .i64 0) := hR.2.2.2.1.cell 0
    clear hn hR hm hD hs5
    gi_wp2
    have hd := HD.out
    refine leaves_marks (N := w.heap.size) (BeR q B w.heap.size w c 0 22) (fun X E hk hE ho => hk.own (Nat.le_refl _) (grownBy_putObj' X E _) (fun r e => by cases e; exact ⟨hE, _, ho, rfl⟩)) (fun X hk => ⟨_, (hk.out rfl rfl).1, ?_, (hk.out (tmps := #[undef, undef, undef, undef, .pointer (some ⟨w.heap.size + 1 + 1, 0, none⟩), .pointer (some ⟨w.heap.size + 1 + 1 + 1, 0, none⟩)]) rfl rfl).2⟩) [D] _ (by simp) ?_ ?_ (HR5.out.set HBL.out 0 22)
    · intro x hx
      rw [List.mem_singleton.1 hx]; omega
    · intro x hx
      rw [List.mem_singleton.1 hx]; exact keep2 (by omega) (by omega) HM.out
    · rw [HBO.out]; rfl
  case stop =>
    rintro D cc pre W hD hp ⟨rfl, p, x, rfl, hn, hx, hR⟩ hm
    have HBO : Hid (bestOf q.mask c (order ls) = some x) := by
      obtain ⟨t, ht⟩ := hp
      show List.find? _ _ = _
      rw [← ht]; exact find_first hn hx
    have HR5 := Lib.hid hR
    have HM := Lib.hid hm
    have HD : Hid (w.heap.size + 1 + 1 + 1 < D) := by show _ < _; omega
    clear hn hx hR hm hD hs5 hp
    gi_wp2
    have hd := HD.out
    refine leaves_marks (N := w.heap.size) (BeR q B w.heap.size w c x 0) (fun X E hk hE ho => hk.own (Nat.le_refl _) (grownBy_putObj' X E _) (fun r e => by cases e; exact ⟨hE, _, ho, rfl⟩)) (fun X hk => ⟨_, (hk.out rfl rfl).1, ?_, (hk.out (tmps := #[undef, undef, undef, undef, .pointer (some ⟨w.heap.size + 1 + 1, 0, none⟩), .pointer (some ⟨w.heap.size + 1 + 1 + 1, 0, none⟩)]) rfl rfl).2⟩) [D] _ (by simp) ?_ ?_ HR5.out
    · intro x hx
      rw [List.mem_singleton.1 hx]; omega
    · intro x hx
      rw [List.mem_singleton.1 hx]; exact HM.out
    · rw [HBO.out]; rfl
end Go.Proofs.Ytbjpaemldnoinaa
