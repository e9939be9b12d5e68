/- The contracts of the specification's Sections and Preemptible. -/
import Derived.Test.YtgbbidgmhmbehaaRb
import Derived.Test.YtgbbidgmhmbehaaLa
namespace Go.Proofs.Ytgbbidgmhmbehaa
open Go.RowKit
set_option linter.unusedVariables false

theorem secs_last {s q : Int} (hs : 1 ≤ s) (h0 : 0 < q) (h : q ≤ s) : secs s q = [q] := by
  rw [secs_step hs h0, if_neg (by omega), secs_no (by omega)]

set_option maxHeartbeats 1000000 in
set_option maxRecDepth 100000 in
theorem refsections_bad (s c : Int) (l : List Int) (hl : l.length = 24) (n : Int) (w : World) (h : ¬ okT s c l) :
    Calls Try.prog 15 #[.agg (tabA s c l), .int .i64 n] w fun e w' => e = .returned (.tuple #[.slice none 0 0, .int .i64 34]) ∧ Below w.heap.size w w' := by
  have HL := Lib.hid hl
  have HT := Lib.hid (TabAt.box w s c l 29)
  have HS := Lib.hid (size_rtab s c l hl)
  have HH := Lib.hid h
  clear hl h
  go_enter Try.func15, Try.ntmps15
  go_wp2_with (first
    | (refine wpList_load_mid rfl 29 (Operand.tmp 2) rfl w.heap.size 0 rfl (tabL s c l) _ HT.out.whole Try.underlying29 rfl HS.out ?_)
    | (go_at_call 10; refine (refcheck_no s c l HL.out _ HH.out).mono ?_; rintro e w1 ⟨rfl, hb⟩))
  go_ret2
  exact ⟨rfl, (HT.out.call hb).below⟩

set_option maxHeartbeats 1000000 in
set_option maxRecDepth 100000 in
theorem refsections_out (s c : Int) (l : List Int) (hl : l.length = 24) (n : Int) (w : World) (h : okT s c l) (hn : n < 1 ∨ 100000 < n) :
    Calls Try.prog 15 #[.agg (tabA s c l), .int .i64 n] w fun e w' => e = .returned (.tuple #[.slice none 0 0, .int .i64 34]) ∧ Below w.heap.size w w' := by
  have HL := Lib.hid hl
  have HT := Lib.hid (TabAt.box w s c l 29)
  have HS := Lib.hid (size_rtab s c l hl)
  have HH := Lib.hid h
  clear hl h
  by_cases h1 : n < 1
  · clear hn
    go_enter Try.func15, Try.ntmps15
    go_wp2_with (first
      | (refine wpList_load_mid rfl 29 (Operand.tmp 2) rfl w.heap.size 0 rfl (tabL s c l) _ HT.out.whole Try.underlying29 rfl HS.out ?_)
      | (go_at_call 10; refine (refcheck_ok s c l HL.out _ HH.out).mono ?_; rintro e w1 ⟨rfl, hb⟩))
    go_ret2
    exact ⟨rfl, (HT.out.call hb).below⟩
  · have h2 : 100000 < n := by omega
    have d1 : decide (n < 1) = false := by simp; omega
    clear hn h1
    go_enter Try.func15, Try.ntmps15
    go_wp2_with (first
      | (refine wpList_load_mid rfl 29 (Operand.tmp 2) rfl w.heap.size 0 rfl (tabL s c l) _ HT.out.whole Try.underlying29 rfl HS.out ?_)
      | (go_at_call 10; refine (refcheck_ok s c l HL.out _ HH.out).mono ?_; rintro e w1 ⟨rfl, hb⟩))
    go_ret2
    exact ⟨rfl, (HT.out.call hb).below⟩
theorem refsections_no (s c : Int) (l : List Int) (hl : l.length = 24) (n : Int) (w : World) (h : ¬ okN s c l n) :
    Calls Try.prog 15 #[.agg (tabA s c l), .int .i64 n] w fun e w' => e = .returned (.tuple #[.slice none 0 0, .int .i64 34]) ∧ Below w.heap.size w w' := by
  by_cases h1 : okT s c l
  · exact refsections_out s c l hl n w h1 (by
      by_cases h2 : 1 ≤ n
      · by_cases h3 : n ≤ 100000
        · exact absurd ⟨h1, h2, h3⟩ h
        · omega
      · omega)
  · exact refsections_bad s c l hl n w h1

set_option maxHeartbeats 2000000 in
set_option maxRecDepth 100000 in
theorem refsections_ok (s c : Int) (l : List Int) (hl : l.length = 24) (n : Int) (w : World) (h : okN s c l n) :
    Calls Try.prog 15 #[.agg (tabA s c l), .int .i64 n] w (SecPost s n w) := by
  have HL := Lib.hid hl
  have HT := Lib.hid (TabAt.box w s c l 29)
  have HS := Lib.hid (size_rtab s c l hl)
  have HH := Lib.hid h
  have hs1 : 1 ≤ s := h.1.1
  have hs2 : s ≤ 1000 := h.1.2.1
  have hn1 : 1 ≤ n := h.2.1
  have hn2 : n ≤ 100000 := h.2.2
  have d1 : decide (n < 1) = false := by simp; omega
  have d2 : decide (100000 < n) = false := by simp; omega
  clear hl h
  obtain ⟨i0, hi, hz0, hz1, hz2⟩ := info_parts info_i64
  have HI := Lib.hid hi
  have HZ0 := Lib.hid hz0
  have HZ1 := Lib.hid hz1
  have HZ2 := Lib.hid hz2
  clear hi hz0 hz1 hz2
  go_enter Try.func15, Try.ntmps15
  go_wp2_with (first
    | (refine wpList_load_mid rfl 29 (Operand.tmp 2) rfl w.heap.size 0 rfl (tabL s c l) _ HT.out.whole Try.underlying29 rfl HS.out ?_)
    | (go_at_call 10; refine (refcheck_ok s c l HL.out _ HH.out.1).mono ?_; rintro e w1 ⟨rfl, hb⟩))
  have HT1 := Lib.hid (HT.out.call hb)
  clear hb
  go_loopw [1, 6] (fun r v wr => ∃ (xs : List Int) (q : Int), r = .int .i64 q ∧ 0 < q ∧ q ≤ n ∧ (xs.length : Int) + q ≤ n ∧ Hid (xs ++ secs s q = secs s n) ∧ wr.ownsRow (w.heap.size + 1) 2 1 v xs.length (xs.map (Value.int .i64)) ∧ TabAt w w.heap.size s c l wr) (fun r _ _ => (intOf r).toNat)
  case atStart =>
    exact ⟨[], n, rfl, by omega, by omega, by simp, rfl, World.ownsRow_nil _ _ _ _, HT1.out⟩
  case round =>
    obtain ⟨xs, q, rfl, hq1, hq2, hq3, HSUM, hown, ht⟩ := hrel
    have hc0 := ht.1
    have hwlt : w.heap.size < wr.heap.size := ht.2.2.2.2
    have HTT := Lib.hid ht
    have hxl : xs.length ≤ 100000 := by omega
    clear ht
    by_cases hc : s < q
    · go_wp2_with (at_builtin; go_must (refine wpList_append_own _ rfl (Operand.tmp 22) (Operand.tmp 25) 37 rfl (w.heap.size + 1) 2 i0 (.int .i64 0) 1 8 Try.underlying37 HI.out HZ0.out HZ1.out HZ2.out rfl (by decide) _ _ _ rfl (hown.alloc _) ⟨wr.heap.size, 0, none⟩ 1 1 [.int .i64 s] rfl rfl (World.news_of_block (cs := #[.int .i64 s]) (t := 2) (fr := (0, 0)) (heap_alloc_new wr _)) (by simp [Value.oneCell']) (by unfold maxLen; omega) (by omega) (by simp; omega) ?_); intro v' w1 hown1 hgrow _; have HN := Lib.hid (sec_round hs1 hq1 HTT.out (if_pos hc) HSUM.out hown hown1 hgrow); have hc1 := HN.out.2.2.1; clear hown hown1 hgrow hc0)
      go_roundw
      case rel => exact ⟨xs ++ [s], q - s, rfl, by omega, by omega, by simp; omega, HN.out.1, HN.out.2.1, HN.out.2.2⟩
      case measure => simp [intOf]; omega
    · have hd : decide (s < q) = false := by simp; omega
      go_wp2_with (at_builtin; go_must (refine wpList_append_own _ rfl (Operand.tmp 31) (Operand.tmp 33) 37 rfl (w.heap.size + 1) 2 i0 (.int .i64 0) 1 8 Try.underlying37 HI.out HZ0.out HZ1.out HZ2.out rfl (by decide) _ _ _ rfl (hown.alloc _) ⟨wr.heap.size, 0, none⟩ 1 1 [.int .i64 q] rfl rfl (World.news_of_block (cs := #[.int .i64 q]) (t := 2) (fr := (0, 0)) (heap_alloc_new wr _)) (by simp [Value.oneCell']) (by unfold maxLen; omega) (by omega) (by simp; omega) ?_); intro v' w1 hown1 hgrow _; have HN := Lib.hid (sec_round hs1 hq1 HTT.out (if_neg hc) HSUM.out hown hown1 hgrow); clear hown hown1 hgrow hc0)
      have HE : Hid (xs ++ [q] = secs s n) := by show _ = _; rw [← HSUM.out, secs_last hs1 hq1 (by omega)]
      go_ret2
      exact ⟨_, rfl, by rw [← HE.out]; exact ownsRow_mono HN.out.2.1 (by omega), HN.out.2.2.below⟩

/-- What Preemptible answers where the operation is divisible. -/
def preB (s n d : Int) : Bool := if 0 ≤ d ∧ d < n then d % s == 0 else false
theorem preB_any (s c : Int) (l : List Int) (hl : l.length = 24) (n d : Int) (w : World) (h : okN s c l n) :
    Calls Try.prog 16 #[.agg (tabA s c l), .int .i64 n, .int .i64 d] w fun e w' => e = .returned (.bool (preB s n d)) ∧ Below w.heap.size w w' := by
  unfold preB
  by_cases h1 : 0 ≤ d ∧ d < n
  · rw [if_pos h1]; exact pre_in s c l hl n d w h h1.1 h1.2
  · rw [if_neg h1]
    by_cases h2 : d = n
    · subst h2; exact pre_end s c l hl d w h
    · exact pre_out s c l hl n d w h (by omega)

set_option maxHeartbeats 1000000 in
set_option maxRecDepth 100000 in
theorem rpre_bad (s c : Int) (l : List Int) (hl : l.length = 24) (n d : Int) (w : World) (h : ¬ okT s c l) :
    Calls Try.prog 17 #[.agg (tabA s c l), .int .i64 n, .int .i64 d] w fun e w' => e = .returned (.bool false) ∧ Below w.heap.size w w' := by
  have HL := Lib.hid hl
  have HT := Lib.hid (TabAt.box w s c l 29)
  have HS := Lib.hid (size_rtab s c l hl)
  have HH := Lib.hid h
  clear hl h
  go_enter Try.func17, Try.ntmps17
  go_wp2_with (first
    | (refine wpList_load_mid rfl 29 (Operand.tmp 3) rfl w.heap.size 0 rfl (tabL s c l) _ HT.out.whole Try.underlying29 rfl HS.out ?_)
    | (go_at_call 10; refine (refcheck_no s c l HL.out _ HH.out).mono ?_; rintro e w1 ⟨rfl, hb⟩; have hc0 := (HT.out.call hb).1; have HB := Lib.hid hb; clear hb))
  go_ret
  exact ⟨rfl, (HT.out.call HB.out).below⟩

set_option maxHeartbeats 1000000 in
set_option maxRecDepth 100000 in
theorem rpre_n0 (s c : Int) (l : List Int) (hl : l.length = 24) (n d : Int) (w : World) (h : okT s c l) (h1 : n < 1) :
    Calls Try.prog 17 #[.agg (tabA s c l), .int .i64 n, .int .i64 d] w fun e w' => e = .returned (.bool false) ∧ Below w.heap.size w w' := by
  have HL := Lib.hid hl
  have HT := Lib.hid (TabAt.box w s c l 29)
  have HS := Lib.hid (size_rtab s c l hl)
  have HH := Lib.hid h
  clear hl h
  go_enter Try.func17, Try.ntmps17
  go_wp2_with (first
    | (refine wpList_load_mid rfl 29 (Operand.tmp 3) rfl w.heap.size 0 rfl (tabL s c l) _ HT.out.whole Try.underlying29 rfl HS.out ?_)
    | (go_at_call 10; refine (refcheck_ok s c l HL.out _ HH.out).mono ?_; rintro e w1 ⟨rfl, hb⟩; have hc0 := (HT.out.call hb).1; have HB := Lib.hid hb; clear hb))
  go_ret
  exact ⟨rfl, (HT.out.call HB.out).below⟩

set_option maxHeartbeats 1000000 in
set_option maxRecDepth 100000 in
theorem rpre_n1 (s c : Int) (l : List Int) (hl : l.length = 24) (n d : Int) (w : World) (h : okT s c l) (h1 : 1 ≤ n) (h2 : 100000 < n) :
    Calls Try.prog 17 #[.agg (tabA s c l), .int .i64 n, .int .i64 d] w fun e w' => e = .returned (.bool false) ∧ Below w.heap.size w w' := by
  have HL := Lib.hid hl
  have HT := Lib.hid (TabAt.box w s c l 29)
  have HS := Lib.hid (size_rtab s c l hl)
  have HH := Lib.hid h
  have e1 : decide (n < 1) = false := by simp; omega
  clear hl h
  go_enter Try.func17, Try.ntmps17
  go_wp2_with (first
    | (refine wpList_load_mid rfl 29 (Operand.tmp 3) rfl w.heap.size 0 rfl (tabL s c l) _ HT.out.whole Try.underlying29 rfl HS.out ?_)
    | (go_at_call 10; refine (refcheck_ok s c l HL.out _ HH.out).mono ?_; rintro e w1 ⟨rfl, hb⟩; have hc0 := (HT.out.call hb).1; have HB := Lib.hid hb; clear hb))
  go_ret
  exact ⟨rfl, (HT.out.call HB.out).below⟩

set_option maxHeartbeats 1000000 in
set_option maxRecDepth 100000 in
theorem rpre_d0 (s c : Int) (l : List Int) (hl : l.length = 24) (n d : Int) (w : World) (h : okT s c l) (h1 : 1 ≤ n) (h2 : n ≤ 100000) (h3 : d < 0) :
    Calls Try.prog 17 #[.agg (tabA s c l), .int .i64 n, .int .i64 d] w fun e w' => e = .returned (.bool false) ∧ Below w.heap.size w w' := by
  have HL := Lib.hid hl
  have HT := Lib.hid (TabAt.box w s c l 29)
  have HS := Lib.hid (size_rtab s c l hl)
  have HH := Lib.hid h
  have e1 : decide (n < 1) = false := by simp; omega
  have e2 : decide (100000 < n) = false := by simp; omega
  clear hl h
  go_enter Try.func17, Try.ntmps17
  go_wp2_with (first
    | (refine wpList_load_mid rfl 29 (Operand.tmp 3) rfl w.heap.size 0 rfl (tabL s c l) _ HT.out.whole Try.underlying29 rfl HS.out ?_)
    | (go_at_call 10; refine (refcheck_ok s c l HL.out _ HH.out).mono ?_; rintro e w1 ⟨rfl, hb⟩; have hc0 := (HT.out.call hb).1; have HB := Lib.hid hb; clear hb))
  go_ret
  exact ⟨rfl, (HT.out.call HB.out).below⟩

set_option maxHeartbeats 1000000 in
set_option maxRecDepth 100000 in
theorem rpre_d1 (s c : Int) (l : List Int) (hl : l.length = 24) (n d : Int) (w : World) (h : okT s c l) (h1 : 1 ≤ n) (h2 : n ≤ 100000) (h3 : 0 ≤ d) (h4 : n < d) :
    Calls Try.prog 17 #[.agg (tabA s c l), .int .i64 n, .int .i64 d] w fun e w' => e = .returned (.bool false) ∧ Below w.heap.size w w' := by
  have HL := Lib.hid hl
  have HT := Lib.hid (TabAt.box w s c l 29)
  have HS := Lib.hid (size_rtab s c l hl)
  have HH := Lib.hid h
  have e1 : decide (n < 1) = false := by simp; omega
  have e2 : decide (100000 < n) = false := by simp; omega
  have e3 : decide (d < 0) = false := by simp; omega
  clear hl h
  go_enter Try.func17, Try.ntmps17
  go_wp2_with (first
    | (refine wpList_load_mid rfl 29 (Operand.tmp 3) rfl w.heap.size 0 rfl (tabL s c l) _ HT.out.whole Try.underlying29 rfl HS.out ?_)
    | (go_at_call 10; refine (refcheck_ok s c l HL.out _ HH.out).mono ?_; rintro e w1 ⟨rfl, hb⟩; have hc0 := (HT.out.call hb).1; have HB := Lib.hid hb; clear hb))
  go_ret
  exact ⟨rfl, (HT.out.call HB.out).below⟩

set_option maxHeartbeats 1000000 in
set_option maxRecDepth 100000 in
theorem rpre_zero (s c : Int) (l : List Int) (hl : l.length = 24) (n d : Int) (w : World) (h : okT s c l) (h1 : 1 ≤ n) (h2 : n ≤ 100000) (h3 : d = 0) :
    Calls Try.prog 17 #[.agg (tabA s c l), .int .i64 n, .int .i64 d] w fun e w' => e = .returned (.bool true) ∧ Below w.heap.size w w' := by
  have HL := Lib.hid hl
  have HT := Lib.hid (TabAt.box w s c l 29)
  have HS := Lib.hid (size_rtab s c l hl)
  have HH := Lib.hid h
  subst h3
  have e1 : decide (n < 1) = false := by simp; omega
  have e2 : decide (100000 < n) = false := by simp; omega
  have e4 : decide (n < 0) = false := by simp; omega
  clear hl h
  go_enter Try.func17, Try.ntmps17
  go_wp2_with (first
    | (refine wpList_load_mid rfl 29 (Operand.tmp 3) rfl w.heap.size 0 rfl (tabL s c l) _ HT.out.whole Try.underlying29 rfl HS.out ?_)
    | (go_at_call 10; refine (refcheck_ok s c l HL.out _ HH.out).mono ?_; rintro e w1 ⟨rfl, hb⟩; have hc0 := (HT.out.call hb).1; have HB := Lib.hid hb; clear hb))
  go_ret
  exact ⟨rfl, (HT.out.call HB.out).below⟩

set_option maxHeartbeats 1000000 in
set_option maxRecDepth 100000 in
theorem rpre_in (s c : Int) (l : List Int) (hl : l.length = 24) (n d : Int) (w : World) (h : okT s c l) (h1 : 1 ≤ n) (h2 : n ≤ 100000) (h3 : 1 ≤ d) (h4 : d < n) :
    Calls Try.prog 17 #[.agg (tabA s c l), .int .i64 n, .int .i64 d] w fun e w' => e = .returned (.bool (d % s == 0)) ∧ Below w.heap.size w w' := by
  have HL := Lib.hid hl
  have HT := Lib.hid (TabAt.box w s c l 29)
  have HS := Lib.hid (size_rtab s c l hl)
  have HH := Lib.hid h
  have e1 : decide (n < 1) = false := by simp; omega
  have e2 : decide (100000 < n) = false := by simp; omega
  have e3 : decide (d < 0) = false := by simp; omega
  have e4 : decide (n < d) = false := by simp; omega
  have e5 : (d == 0) = false := beq_eq_false_iff_ne.2 (by omega)
  have hs1 : 1 ≤ s := h.1
  have hs2 : s ≤ 1000 := h.2.1
  have h30 : 0 ≤ d := by omega
  clear hl h
  go_enter Try.func17, Try.ntmps17
  go_wp2_with (first
    | (refine wpList_load_mid rfl 29 (Operand.tmp 3) rfl w.heap.size 0 rfl (tabL s c l) _ HT.out.whole Try.underlying29 rfl HS.out ?_)
    | (go_at_call 10; refine (refcheck_ok s c l HL.out _ HH.out).mono ?_; rintro e w1 ⟨rfl, hb⟩; have hc0 := (HT.out.call hb).1; have HB := Lib.hid hb; clear hb))
  go_ret
  exact ⟨rfl, (HT.out.call HB.out).below⟩

set_option maxHeartbeats 1000000 in
set_option maxRecDepth 100000 in
theorem rpre_end (s c : Int) (l : List Int) (hl : l.length = 24) (n d : Int) (w : World) (h : okT s c l) (h1 : 1 ≤ n) (h2 : n ≤ 100000) (h3 : d = n) :
    Calls Try.prog 17 #[.agg (tabA s c l), .int .i64 n, .int .i64 d] w fun e w' => e = .returned (.bool false) ∧ Below w.heap.size w w' := by
  have HL := Lib.hid hl
  have HT := Lib.hid (TabAt.box w s c l 29)
  have HS := Lib.hid (size_rtab s c l hl)
  have HH := Lib.hid h
  subst h3
  have e1 : decide (d < 1) = false := by simp; omega
  have e2 : decide (100000 < d) = false := by simp; omega
  have e3 : decide (d < 0) = false := by simp; omega
  have e4 : decide (d < d) = false := by simp
  have e5 : (d == 0) = false := beq_eq_false_iff_ne.2 (by omega)
  clear hl h
  go_enter Try.func17, Try.ntmps17
  go_wp2_with (first
    | (refine wpList_load_mid rfl 29 (Operand.tmp 3) rfl w.heap.size 0 rfl (tabL s c l) _ HT.out.whole Try.underlying29 rfl HS.out ?_)
    | (go_at_call 10; refine (refcheck_ok s c l HL.out _ HH.out).mono ?_; rintro e w1 ⟨rfl, hb⟩; have hc0 := (HT.out.call hb).1; have HB := Lib.hid hb; clear hb))
  go_ret
  exact ⟨rfl, (HT.out.call HB.out).below⟩

/-- What both Preemptibles answer. -/
theorem pre_both (s c : Int) (l : List Int) (hl : l.length = 24) (n d : Int) : ∃ bp : Bool,
    (∀ w, Calls Try.prog 16 #[.agg (tabA s c l), .int .i64 n, .int .i64 d] w fun e w' => e = .returned (.bool bp) ∧ Below w.heap.size w w') ∧
    (∀ w, Calls Try.prog 17 #[.agg (tabA s c l), .int .i64 n, .int .i64 d] w fun e w' => e = .returned (.bool bp) ∧ Below w.heap.size w w') := by
  by_cases h : okT s c l
  · by_cases h1 : 1 ≤ n
    · by_cases h2 : n ≤ 100000
      · refine ⟨preB s n d, fun w => preB_any s c l hl n d w ⟨h, h1, h2⟩, fun w => ?_⟩
        unfold preB
        by_cases h3 : 0 ≤ d ∧ d < n
        · rw [if_pos h3]
          by_cases h4 : d = 0
          · have := rpre_zero s c l hl n d w h h1 h2 h4
            rw [h4] at this ⊢
            simpa using this
          · exact rpre_in s c l hl n d w h h1 h2 (by omega) h3.2
        · rw [if_neg h3]
          by_cases h4 : d < 0
          · exact rpre_d0 s c l hl n d w h h1 h2 h4
          · by_cases h5 : d = n
            · exact rpre_end s c l hl n d w h h1 h2 h5
            · exact rpre_d1 s c l hl n d w h h1 h2 (by omega) (by omega)
      · exact ⟨false, fun w => pre_bad s c l hl n d w (fun hh => h2 hh.2.2), fun w => rpre_n1 s c l hl n d w h h1 (by omega)⟩
    · exact ⟨false, fun w => pre_bad s c l hl n d w (fun hh => h1 hh.2.1), fun w => rpre_n0 s c l hl n d w h (by omega)⟩
  · exact ⟨false, fun w => pre_bad s c l hl n d w (fun hh => h hh.1), fun w => rpre_bad s c l hl n d w h⟩
end Go.Proofs.Ytgbbidgmhmbehaa
