/- The contracts of costs.copying, Cost, divisible and Preemptible. -/
import Derived.Test.YtnnmmkimdknbgaaDoorCc
namespace Go.Proofs.YtnnmmkimdknbgaaDoor
open Go.RowKit
set_option linter.unusedVariables false

theorem mul_le_of {c u : Int} (h3 : 0 ≤ c) (h4 : c ≤ 100) (h0 : 0 ≤ u) (h1 : u ≤ 256) : 0 ≤ c * u ∧ c * u ≤ 25600 :=
  ⟨Int.mul_nonneg h3 h0, Int.le_trans (Int.mul_le_mul h4 h1 h0 (by omega)) (by omega)⟩

/-- What a number of bytes adds to the cost. -/
def cpy (c n : Int) : Int := c * ((n + 15) / 16)
theorem cpy_bd {c n : Int} (h3 : 0 ≤ c) (h4 : c ≤ 100) (h0 : 0 ≤ n) (h1 : n ≤ 4096) : 0 ≤ cpy c n ∧ cpy c n ≤ 25600 := mul_le_of h3 h4 (by omega) (by omega)

theorem ret_int {k : IntKind} {a b : Int} (h : a = b) : Ending.returned (.int k a) = .returned (.int k b) := by rw [h]
theorem wrap_cpy {c n : Int} (h3 : 0 ≤ c) (h4 : c ≤ 100) (h0 : 0 ≤ n) (h1 : n ≤ 4096) : wrap64 (c * ((n + 16 - 1) / 16)) = cpy c n := by
  have := cpy_bd h3 h4 h0 h1
  rw [show n + 16 - 1 = n + 15 from by omega, IntWalk.wrap64_in _ ⟨by unfold cpy at this; omega, by unfold cpy at this; omega⟩]
  rfl

/-- The cells of a table, as a list. -/
def tabL (s c : Int) (l : List Int) : List Value := Value.int .i64 s :: Value.int .i64 c :: l.map (Value.int .i64)
theorem TabAt.whole {w0 : World} {g : Nat} {s c : Int} {l : List Int} {w : World} (h : TabAt w0 g s c l w) : w.rangeAt g 0 (tabL s c l) := fun j v hv => by
  match j, hv with
  | 0, hv => rw [show (0 + 0 : Nat) = 0 from rfl, h.1, ← hv]; rfl
  | 1, hv => rw [show (0 + 1 : Nat) = 1 from rfl, h.2.1, ← hv]; rfl
  | j + 2, hv => rw [show 0 + (j + 2) = 2 + j from by omega, h.2.2.1 j v (by simpa [tabL] using hv)]
theorem TabAt.cell {w0 : World} {g : Nat} {s c : Int} {l : List Int} {w : World} (h : TabAt w0 g s c l w) (i : Nat) (hi : i < l.length) : w.cell? ⟨g, 2 + i, none⟩ = some (.int .i64 (l.getD i 0)) :=
  h.2.2.1 i _ (by simp [List.getD, List.getElem?_eq_getElem hi])
theorem TabAt.below {w0 : World} {g : Nat} {s c : Int} {l : List Int} {w : World} (h : TabAt w0 g s c l w) : Below w0.heap.size w0 w := h.2.2.2.1
theorem size_tab (s c : Int) (l : List Int) (hl : l.length = 24) : (Tryd.prog.info? 24).map (·.size) = some (tabL s c l).length := by
  have e : (Tryd.prog.info? 24).map (·.size) = some 26 := by kernel_rfl
  rw [show (tabL s c l).length = 26 from by simp [tabL, hl]]
  exact e

set_option maxHeartbeats 400000 in
theorem copying_any (s c : Int) (l : List Int) (n : Int) (w : World) (h3 : 0 ≤ c) (h4 : c ≤ 100) (h0 : 0 ≤ n) (h1 : n ≤ 4096) :
    Calls Tryd.prog 31 #[.agg (tabA s c l), .int .i64 n] w fun e w' => e = .returned (.int .i64 (cpy c n)) ∧ Below w.heap.size w w' := by
  have hc1 := (TabAt.box w s c l 24).2.1
  have g1 := tabA_get1 s c l
  have HW := Lib.hid (wrap_cpy h3 h4 h0 h1)
  go_enter Tryd.func31, Tryd.ntmps31
  go_wp2
  go_ret
  exact ⟨ret_int HW.out, (Below.refl _ _).alloc (Nat.le_refl _) _⟩

set_option maxHeartbeats 1000000 in
set_option maxRecDepth 100000 in
theorem cost_bad (s c : Int) (l : List Int) (hl : l.length = 24) (op n : Int) (w : World) (h : ¬ okT s c l) :
    Calls Tryd.prog 12 #[.agg (tabA s c l), .int .i64 op, .int .i64 n] w fun e w' => e = .returned (.tuple #[.int .i64 0, .int .i64 34]) ∧ Below w.heap.size w w' := by
  have HL := Lib.hid hl
  have HH := Lib.hid h
  have HT := Lib.hid (TabAt.box w s c l 24)
  have HS := Lib.hid (size_tab s c l hl)
  clear hl h
  go_enter Tryd.func12, Tryd.ntmps12
  go_wp2_with (first
    | (refine wpList_load_mid rfl 24 (Operand.tmp 3) rfl w.heap.size 0 rfl (tabL s c l) _ HT.out.whole Tryd.underlying24 rfl HS.out ?_)
    | (go_at_call 15; refine (check_no s c l HL.out _ HH.out).mono ?_; rintro e w1 ⟨rfl, hb⟩))
  go_ret2
  exact ⟨rfl, (HT.out.call hb).below⟩
set_option maxHeartbeats 1000000 in
set_option maxRecDepth 100000 in
theorem cost_kind (s c : Int) (l : List Int) (hl : l.length = 24) (op n : Int) (w : World) (h : okT s c l) (ho : op < 0 ∨ 24 ≤ op) :
    Calls Tryd.prog 12 #[.agg (tabA s c l), .int .i64 op, .int .i64 n] w fun e w' => e = .returned (.tuple #[.int .i64 0, .int .i64 17]) ∧ Below w.heap.size w w' := by
  have HL := Lib.hid hl
  have HH := Lib.hid h
  have HT := Lib.hid (TabAt.box w s c l 24)
  have HS := Lib.hid (size_tab s c l hl)
  have HO := Lib.hid ho
  clear ho
  clear hl h
  go_enter Tryd.func12, Tryd.ntmps12
  go_wp2_with (first
    | (refine wpList_load_mid rfl 24 (Operand.tmp 3) rfl w.heap.size 0 rfl (tabL s c l) _ HT.out.whole Tryd.underlying24 rfl HS.out ?_)
    | (go_at_call 15; refine (check_ok s c l HL.out _ HH.out).mono ?_; rintro e w1 ⟨rfl, hb⟩)
    | (go_at_call 30; refine (isop_no _ _ HO.out).mono ?_; rintro e w' ⟨rfl, rfl⟩))
  go_ret2
  exact ⟨rfl, (HT.out.call hb).below⟩
set_option maxHeartbeats 1000000 in
set_option maxRecDepth 100000 in
theorem cost_lo (s c : Int) (l : List Int) (hl : l.length = 24) (op n : Int) (w : World) (h : okT s c l) (ho1 : 0 ≤ op) (ho2 : op < 24) (hn : n < 0) :
    Calls Tryd.prog 12 #[.agg (tabA s c l), .int .i64 op, .int .i64 n] w fun e w' => e = .returned (.tuple #[.int .i64 0, .int .i64 34]) ∧ Below w.heap.size w w' := by
  have HL := Lib.hid hl
  have HH := Lib.hid h
  have HT := Lib.hid (TabAt.box w s c l 24)
  have HS := Lib.hid (size_tab s c l hl)
  clear hl h
  go_enter Tryd.func12, Tryd.ntmps12
  go_wp2_with (first
    | (refine wpList_load_mid rfl 24 (Operand.tmp 3) rfl w.heap.size 0 rfl (tabL s c l) _ HT.out.whole Tryd.underlying24 rfl HS.out ?_)
    | (go_at_call 15; refine (check_ok s c l HL.out _ HH.out).mono ?_; rintro e w1 ⟨rfl, hb⟩)
    | (go_at_call 30; refine (isop_yes _ _ ho1 ho2).mono ?_; rintro e w' ⟨rfl, rfl⟩))
  go_ret2
  exact ⟨rfl, (HT.out.call hb).below⟩
set_option maxHeartbeats 1000000 in
set_option maxRecDepth 100000 in
theorem cost_hi (s c : Int) (l : List Int) (hl : l.length = 24) (op n : Int) (w : World) (h : okT s c l) (ho1 : 0 ≤ op) (ho2 : op < 24) (hn0 : 0 ≤ n) (hn : 4096 < n) :
    Calls Tryd.prog 12 #[.agg (tabA s c l), .int .i64 op, .int .i64 n] w fun e w' => e = .returned (.tuple #[.int .i64 0, .int .i64 34]) ∧ Below w.heap.size w w' := by
  have HL := Lib.hid hl
  have HH := Lib.hid h
  have HT := Lib.hid (TabAt.box w s c l 24)
  have HS := Lib.hid (size_tab s c l hl)
  have hd : decide (n < 0) = false := by simp; omega
  clear hl h
  go_enter Tryd.func12, Tryd.ntmps12
  go_wp2_with (first
    | (refine wpList_load_mid rfl 24 (Operand.tmp 3) rfl w.heap.size 0 rfl (tabL s c l) _ HT.out.whole Tryd.underlying24 rfl HS.out ?_)
    | (go_at_call 15; refine (check_ok s c l HL.out _ HH.out).mono ?_; rintro e w1 ⟨rfl, hb⟩)
    | (go_at_call 30; refine (isop_yes _ _ ho1 ho2).mono ?_; rintro e w' ⟨rfl, rfl⟩))
  go_ret2
  exact ⟨rfl, (HT.out.call hb).below⟩
set_option maxHeartbeats 1000000 in
set_option maxRecDepth 100000 in
theorem cost_ok (s c : Int) (l : List Int) (hl : l.length = 24) (op n : Int) (w : World) (h : okT s c l) (ho1 : 0 ≤ op) (ho2 : op < 24) (hn0 : 0 ≤ n) (hn1 : n ≤ 4096) :
    Calls Tryd.prog 12 #[.agg (tabA s c l), .int .i64 op, .int .i64 n] w fun e w' => e = .returned (.tuple #[.int .i64 (l.getD op.toNat 0 + cpy c n), .int .i64 0]) ∧ Below w.heap.size w w' := by
  have HL := Lib.hid hl
  have HH := Lib.hid h
  have HT := Lib.hid (TabAt.box w s c l 24)
  have HS := Lib.hid (size_tab s c l hl)
  have hd : decide (n < 0) = false := by simp; omega
  have hd2 : decide (4096 < n) = false := by simp; omega
  obtain ⟨k, rfl⟩ := Int.eq_ofNat_of_zero_le ho1
  rw [Int.toNat_natCast]
  clear hl h
  go_enter Tryd.func12, Tryd.ntmps12
  go_wp2_with (first
    | (refine wpList_load_mid rfl 24 (Operand.tmp 3) rfl w.heap.size 0 rfl (tabL s c l) _ HT.out.whole Tryd.underlying24 rfl HS.out ?_)
    | (go_at_call 15; refine (check_ok s c l HL.out _ HH.out).mono ?_; rintro e w1 ⟨rfl, hb⟩)
    | (go_at_call 30; refine (isop_yes _ _ ho1 ho2).mono ?_; rintro e w' ⟨rfl, rfl⟩))
  have HT1 := Lib.hid (HT.out.call hb)
  clear hb
  have hk : k < 24 := by omega
  have hcell := fun d os => cell_regrown (HT1.out.cell k (by rw [HL.out]; exact hk)) d os
  have hx := HH.out.cell k (by rw [HL.out]; exact hk)
  have hy := cpy_bd HH.out.2.2.1 HH.out.2.2.2.1 hn0 hn1
  obtain ⟨hx1, hx2⟩ := hx
  obtain ⟨hy1, hy2⟩ := hy
  have HC := Lib.hid (fun v => copying_any s c l n v HH.out.2.2.1 HH.out.2.2.2.1 hn0 hn1)
  have HRG : Hid (∀ v, (∃ p : Regrown, v = Sort.grow (redrawn w1 p.d) p.os) → v.rangeAt w.heap.size 0 (tabL s c l)) := fun v ⟨p, hp⟩ j x hx => by rw [hp]; exact cell_regrown (HT1.out.whole j x hx) _ _
  have hwr : IntKind.i64.wrap (l.getD k 0 + cpy c n) = l.getD k 0 + cpy c n := IntWalk.i64_in _ (by omega)
  generalize hxe : l.getD k 0 = x at hcell hwr hx1 hx2
  generalize hye : cpy c n = y at HC hwr hy1 hy2
  have HXE := Lib.hid hxe
  have HYE := Lib.hid hye
  clear hxe hye
  clear hd hd2
  refine wp_region_quiet_below (by kernel_rfl) (by kernel_rfl) ?_
  repeat (first
    | (refine BigFrame.wpQuiet_want rfl (fun K hK => ?_)
       refine quiet_load_mid 24 _ rfl w.heap.size 0 rfl (tabL s c l) _ HRG.out Tryd.underlying24 rfl HS.out ?_
       refine hK _ ?_
       clear hK K)
    | go_big_quiet_skip
    | quiet_step ((go_at_call 31; exact Calls.regrown_of (HC.out _))))
  refine wpQuiet_nil ?_
  intro _ hw'
  obtain ⟨⟨dq, osq⟩, hw''⟩ := hw'
  subst hw''
  have HB : Hid (Below w.heap.size w (Sort.grow (redrawn w1 dq) osq)) := below_call HT1.out.below (below_regrown _ _ _)
  go_wp2
  go_ret2
  exact ⟨by rw [HXE.out, HYE.out]; rfl, HB.out⟩
set_option maxHeartbeats 1000000 in
set_option maxRecDepth 100000 in
theorem div_bad (s c : Int) (l : List Int) (hl : l.length = 24) (n : Int) (w : World) (h : ¬ okT s c l) :
    Calls Tryd.prog 32 #[.agg (tabA s c l), .int .i64 n] w fun e w' => e = .returned (.bool false) ∧ Below w.heap.size w w' := by
  have HL := Lib.hid hl
  have HT := Lib.hid (TabAt.box w s c l 24)
  have HS := Lib.hid (size_tab s c l hl)
  have HH := Lib.hid h
  clear h
  clear hl
  go_enter Tryd.func32, Tryd.ntmps32
  go_wp2_with (first
    | (refine wpList_load_mid rfl 24 (Operand.tmp 2) rfl w.heap.size 0 rfl (tabL s c l) _ HT.out.whole Tryd.underlying24 rfl HS.out ?_)
    | (go_at_call 15; refine (check_no s c l HL.out _ HH.out).mono ?_; rintro e w1 ⟨rfl, hb⟩))
  go_ret
  exact ⟨rfl, (HT.out.call hb).below⟩
set_option maxHeartbeats 1000000 in
set_option maxRecDepth 100000 in
theorem div_any (s c : Int) (l : List Int) (hl : l.length = 24) (n : Int) (w : World) (h : okT s c l) :
    Calls Tryd.prog 32 #[.agg (tabA s c l), .int .i64 n] w fun e w' => e = .returned (.bool (win 1 100000 n)) ∧ Below w.heap.size w w' := by
  have HL := Lib.hid hl
  have HT := Lib.hid (TabAt.box w s c l 24)
  have HS := Lib.hid (size_tab s c l hl)
  have HH := Lib.hid h
  clear h
  clear hl
  go_enter Tryd.func32, Tryd.ntmps32
  go_wp2_with (first
    | (refine wpList_load_mid rfl 24 (Operand.tmp 2) rfl w.heap.size 0 rfl (tabL s c l) _ HT.out.whole Tryd.underlying24 rfl HS.out ?_)
    | (go_at_call 15; refine (check_ok s c l HL.out _ HH.out).mono ?_; rintro e w1 ⟨rfl, hb⟩)
    | (go_at_call 33; refine (within_any _ _ _ _).mono ?_; rintro e w' ⟨rfl, rfl⟩))
  go_ret
  exact ⟨rfl, (HT.out.call hb).below⟩
/-- What costs.divisible answers. -/
def okN (s c : Int) (l : List Int) (n : Int) : Prop := okT s c l ∧ 1 ≤ n ∧ n ≤ 100000
theorem div_yes (s c : Int) (l : List Int) (hl : l.length = 24) (n : Int) (w : World) (h : okN s c l n) :
    Calls Tryd.prog 32 #[.agg (tabA s c l), .int .i64 n] w fun e w' => e = .returned (.bool true) ∧ Below w.heap.size w w' := by
  rw [← win_yes h.2.1 h.2.2]; exact div_any s c l hl n w h.1
theorem div_no (s c : Int) (l : List Int) (hl : l.length = 24) (n : Int) (w : World) (h : ¬ okN s c l n) :
    Calls Tryd.prog 32 #[.agg (tabA s c l), .int .i64 n] w fun e w' => e = .returned (.bool false) ∧ Below w.heap.size w w' := by
  by_cases h1 : okT s c l
  · rw [← win_no (a := 1) (b := 100000) (n := n) (fun h2 => h ⟨h1, h2⟩)]; exact div_any s c l hl n w h1
  · exact div_bad s c l hl n w h1

set_option maxHeartbeats 1000000 in
set_option maxRecDepth 100000 in
theorem pre_bad (s c : Int) (l : List Int) (hl : l.length = 24) (n d : Int) (w : World) (h : ¬ okN s c l n) :
    Calls Tryd.prog 14 #[.agg (tabA s c l), .int .i64 n, .int .i64 d] w fun e w' => e = .returned (.bool false) ∧ Below w.heap.size w w' := by
  have HL := Lib.hid hl
  have HT := Lib.hid (TabAt.box w s c l 24)
  have HS := Lib.hid (size_tab s c l hl)
  have HH := Lib.hid h
  clear h
  clear hl
  go_enter Tryd.func14, Tryd.ntmps14
  go_wp2_with (first
    | (refine wpList_load_mid rfl 24 (Operand.tmp 3) rfl w.heap.size 0 rfl (tabL s c l) _ HT.out.whole Tryd.underlying24 rfl HS.out ?_)
    | (go_at_call 32; refine (div_no s c l HL.out n _ HH.out).mono ?_; rintro e w1 ⟨rfl, hb⟩))
  go_ret
  exact ⟨rfl, (HT.out.call hb).below⟩
set_option maxHeartbeats 1000000 in
set_option maxRecDepth 100000 in
theorem pre_out (s c : Int) (l : List Int) (hl : l.length = 24) (n d : Int) (w : World) (h : okN s c l n) (h2 : ¬ (0 ≤ d ∧ d ≤ n)) :
    Calls Tryd.prog 14 #[.agg (tabA s c l), .int .i64 n, .int .i64 d] w fun e w' => e = .returned (.bool false) ∧ Below w.heap.size w w' := by
  have HL := Lib.hid hl
  have HT := Lib.hid (TabAt.box w s c l 24)
  have HS := Lib.hid (size_tab s c l hl)
  have HH := Lib.hid h
  have W1 := win_no h2
  clear h h2
  clear hl
  go_enter Tryd.func14, Tryd.ntmps14
  go_wp2_with (first
    | (refine wpList_load_mid rfl 24 (Operand.tmp 3) rfl w.heap.size 0 rfl (tabL s c l) _ HT.out.whole Tryd.underlying24 rfl HS.out ?_)
    | (go_at_call 32; refine (div_yes s c l HL.out n _ HH.out).mono ?_; rintro e w1 ⟨rfl, hb⟩)
    | (go_at_call 33; refine (within_any _ _ _ _).mono ?_; rintro e w' ⟨rfl, rfl⟩))
  go_ret
  exact ⟨rfl, (HT.out.call hb).below⟩
set_option maxHeartbeats 1000000 in
set_option maxRecDepth 100000 in
theorem pre_end (s c : Int) (l : List Int) (hl : l.length = 24) (n : Int) (w : World) (h : okN s c l n) :
    Calls Tryd.prog 14 #[.agg (tabA s c l), .int .i64 n, .int .i64 n] w fun e w' => e = .returned (.bool false) ∧ Below w.heap.size w w' := by
  have HL := Lib.hid hl
  have HT := Lib.hid (TabAt.box w s c l 24)
  have HS := Lib.hid (size_tab s c l hl)
  have HH := Lib.hid h
  have W1 := win_yes (a := 0) (b := n) (n := n) (by have := h.2.1; omega) (by omega)
  have hd : decide (n < n) = false := by simp
  clear h
  clear hl
  go_enter Tryd.func14, Tryd.ntmps14
  go_wp2_with (first
    | (refine wpList_load_mid rfl 24 (Operand.tmp 3) rfl w.heap.size 0 rfl (tabL s c l) _ HT.out.whole Tryd.underlying24 rfl HS.out ?_)
    | (go_at_call 32; refine (div_yes s c l HL.out n _ HH.out).mono ?_; rintro e w1 ⟨rfl, hb⟩)
    | (go_at_call 33; refine (within_any _ _ _ _).mono ?_; rintro e w' ⟨rfl, rfl⟩))
  go_ret
  exact ⟨rfl, (HT.out.call hb).below⟩
set_option maxHeartbeats 1000000 in
set_option maxRecDepth 100000 in
theorem pre_in (s c : Int) (l : List Int) (hl : l.length = 24) (n d : Int) (w : World) (h : okN s c l n) (h1 : 0 ≤ d) (h2 : d < n) :
    Calls Tryd.prog 14 #[.agg (tabA s c l), .int .i64 n, .int .i64 d] w fun e w' => e = .returned (.bool (d % s == 0)) ∧ Below w.heap.size w w' := by
  have HL := Lib.hid hl
  have HT := Lib.hid (TabAt.box w s c l 24)
  have HS := Lib.hid (size_tab s c l hl)
  have HH := Lib.hid h
  have W1 := win_yes h1 (show d ≤ n by omega)
  have hs1 : 1 ≤ s := h.1.1
  have hs2 : s ≤ 1000 := h.1.2.1
  clear h
  clear hl
  go_enter Tryd.func14, Tryd.ntmps14
  go_wp2_with (first
    | (refine wpList_load_mid rfl 24 (Operand.tmp 3) rfl w.heap.size 0 rfl (tabL s c l) _ HT.out.whole Tryd.underlying24 rfl HS.out ?_)
    | (go_at_call 32; refine (div_yes s c l HL.out n _ HH.out).mono ?_; rintro e w1 ⟨rfl, hb⟩; have hc0 := (HT.out.call hb).1; have HB := Lib.hid hb; clear hb)
    | (go_at_call 33; refine (within_any _ _ _ _).mono ?_; rintro e w' ⟨rfl, rfl⟩))
  go_ret
  exact ⟨rfl, (HT.out.call HB.out).below⟩
end Go.Proofs.YtnnmmkimdknbgaaDoor
