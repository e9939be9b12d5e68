/- The walk of the law CostsSections. -/
import Derived.Test.YtgbbidgmhmbehaaSb
namespace Go.Proofs.Ytgbbidgmhmbehaa
open Go.RowKit
set_option linter.unusedVariables false

/-- The table lies at g, the two lists of sections at g1 and g2. -/
def SAt (w0 : World) (g : Nat) (s c : Int) (l L : List Int) (g1 g2 : Nat) (w : World) : Prop :=
  TabAt w0 g s c l w ∧ (∀ j, j < L.length → w.cell? ⟨g1, j, none⟩ = some (.int .i64 (L.getD j 0))) ∧ (∀ j, j < L.length → w.cell? ⟨g2, j, none⟩ = some (.int .i64 (L.getD j 0)))

theorem SAt.drewN {w0 : World} {g : Nat} {s c : Int} {l L : List Int} {g1 g2 : Nat} {w : World} (h : SAt w0 g s c l L g1 g2 w) (n : Nat) : SAt w0 g s c l L g1 g2 (w.drewN n) :=
  ⟨⟨h.1.1, h.1.2.1, h.1.2.2.1, below_drewN h.1.2.2.2.1 n, h.1.2.2.2.2⟩, h.2.1, h.2.2⟩

set_option maxHeartbeats 1000000 in
set_option maxRecDepth 100000 in
theorem sections_skip (s c : Int) (l : List Int) (hl : l.length = 24) (n d : Int) (w : World) (h1 : 5000 < n) (h2 : n ≤ 100000) :
    Calls Try.prog 4 #[.agg (tabA s c l), .int .i64 n, .int .i64 d] w fun e w' => e = .returned (.bool true) ∧ Below w.heap.size w w' := by
  have HT := Lib.hid (TabAt.box w s c l 24)
  go_enter Try.func4, Try.ntmps4
  go_upto_region 1 with (fail)
  generalize w.alloc _ = wA at HT ⊢
  go_wp2_with (go_at_call 13; refine (awake_any _).mono ?_; rintro e w1 ⟨rfl, hb1⟩)
  go_ret
  exact ⟨rfl, (HT.out.call (by assumption)).below⟩

set_option maxHeartbeats 2000000 in
set_option maxRecDepth 100000 in
theorem sections_tail (s c : Int) (l : List Int) (hl : l.length = 24) (n d : Int) (w : World) (h1 : n ≤ 5000) (h : okN s c l n) :
    Calls Try.prog 4 #[.agg (tabA s c l), .int .i64 n, .int .i64 d] w fun e w' => e = .returned (.bool true) ∧ Below w.heap.size w w' := by
  have HL := Lib.hid hl
  have HT := Lib.hid (TabAt.box w s c l 24)
  have HS := Lib.hid (size_tab s c l hl)
  have s1 := h.1.1
  have n1 := h.2.1
  have HSEC : Hid (∀ w, Calls Try.prog 14 #[.agg (tabA s c l), .int .i64 n] w (SecL (secs s n) w)) := fun w =>
    (sections_ok s c l hl n w h).mono fun _ _ hh => SecL_of (secs_pos s1 n1) hh
  have HRSEC : Hid (∀ w, Calls Try.prog 15 #[.agg (tabA s c l), .int .i64 n] w (SecL (secs s n) w)) := fun w =>
    (refsections_ok s c l hl n w h).mono fun _ _ hh => SecL_of (secs_pos s1 n1) hh
  obtain ⟨bp, hp1, hp2⟩ := pre_both s c l hl n d
  obtain ⟨v, hv1, hv2⟩ := long_both s c l hl
  have HP1 := Lib.hid hp1
  have HP2 := Lib.hid hp2
  have HV1 := Lib.hid hv1
  have HV2 := Lib.hid hv2
  have hd : decide (5000 < n) = false := by simp; omega
  have hLn : ((secs s n).length : Int) ≤ 5000 := by have := secs_len s1 5000 n (by omega); omega
  clear hl h hp1 hp2 hv1 hv2 s1 n1
  generalize secs s n = L at HSEC HRSEC hLn
  have hq : ((L.length : Int) != (L.length : Int)) = false := by simp
  go_enter Try.func4, Try.ntmps4
  go_upto_region 1 with (fail)
  generalize w.alloc _ = wA at HT ⊢
  go_upto_region 4 with (first
    | (refine wpList_load_mid rfl 24 (Operand.tmp 3) rfl w.heap.size 0 rfl (tabL s c l) _ HT.out.whole Try.underlying24 rfl HS.out ?_)
    | (go_at_call 14; refine (HSEC.out _).mono ?_; rintro e w1 ⟨g1, cap1, rfl, hc1, hg1, hb1⟩))
  have HT1 := Lib.hid (HT.out.call hb1)
  have HC1 := Lib.hid hc1
  clear hb1 HT hc1
  go_upto_region 5 with (first
    | (refine wpList_load_mid rfl 24 (Operand.tmp 3) rfl w.heap.size 0 rfl (tabL s c l) _ HT1.out.whole Try.underlying24 rfl HS.out ?_)
    | (go_at_call 8; refine (from_any s c l HL.out _).mono ?_; rintro e w2 ⟨rfl, hb2⟩)
    | (go_at_call 15; refine (HRSEC.out _).mono ?_; rintro e w3 ⟨g2, cap2, rfl, hc2, hg2, hb3⟩))
  have HSA : Hid (SAt w w.heap.size s c l L g1 g2 w3) :=
    ⟨(HT1.out.call hb2).call hb3, fun j hj => by rw [hb3.cell (p := ⟨g1, j, none⟩) (Nat.lt_of_lt_of_le hg1 hb2.size), hb2.cell (p := ⟨g1, j, none⟩) hg1]; exact HC1.out j hj, hc2⟩
  clear hb2 hb3 hc2 HT1 HC1 hg1 hg2
  go_wp2
  have hbe : (bp == bp) = true := by simp
  have hve : (v == v) = true := by simp
  go_loopw [11] (fun i wr => ∃ k : Nat, k ≤ L.length ∧ i = .int .i64 k ∧ Hid (SAt w w.heap.size s c l L g1 g2 wr)) (fun i _ => L.length - (intOf i).toNat)
  case atStart => exact ⟨0, by omega, rfl, HSA⟩
  case round =>
    obtain ⟨k, hk, rfl, HR⟩ := hrel
    by_cases hlt : k < L.length
    · have hki : (k : Int) < (L.length : Int) := by omega
      have hk0 : (0 : Int) ≤ (k : Int) := by omega
      have c1 := HR.out.2.1 k hlt
      have c2 := HR.out.2.2 k hlt
      generalize L.getD k 0 = x at c1 c2
      have hxx : (x != x) = false := by simp
      go_upto_region 10 with (fail)
      go_quiet (fail)
      have HRN := Lib.hid (HR.out.drewN nq)
      clear c1 c2
      go_wp2
      go_roundw
      case rel => exact ⟨k + 1, by omega, by go_num, HRN⟩
      case measure => simp [intOf]; omega
    · obtain rfl : k = L.length := by omega
      have hdd : decide ((L.length : Int) < (L.length : Int)) = false := by simp
      have HT4 := Lib.hid HR.out.1
      go_upto_region 12 with (fail)
      have HRG : Hid (∀ v, (∃ p : Regrown, v = Sort.grow (redrawn wr p.d) p.os) → v.rangeAt w.heap.size 0 (tabL s c l)) := fun v ⟨p, hp⟩ j x hx => by rw [hp]; exact cell_regrown (HT4.out.whole j x hx) _ _
      refine wp_region_quiet_below (by kernel_rfl) (by kernel_rfl) ?_
      repeat (first
        | (refine BigFrame.wpQuiet_want rfl (fun K hK => ?_)
           refine quiet_load_mid 24 _ rfl w.heap.size 0 rfl (tabL s c l) _ HRG.out Try.underlying24 rfl HS.out ?_
           refine hK _ ?_
           clear hK K)
        | go_big_quiet_skip
        | quiet_step (first
          | (go_at_call 16; exact Calls.regrown_of (HP1.out _))
          | (go_at_call 17; exact Calls.regrown_of (HP2.out _))
          | (go_at_call 8; exact Calls.regrown_of (from_any s c l HL.out _))
          | (go_at_call 18; exact Calls.regrown_of (HV1.out _))
          | (go_at_call 19; exact Calls.regrown_of (HV2.out _))
          | (go_at_call 13; exact Calls.regrown_of (awake_any _))))
      refine wpQuiet_nil ?_
      intro _ hw'
      obtain ⟨⟨dq, osq⟩, hw''⟩ := hw'
      subst hw''
      have HB : Hid (Below w.heap.size w (Sort.grow (redrawn wr dq) osq)) := below_call HT4.out.below (below_regrown _ _ _)
      go_wp2
      go_ret
      exact ⟨rfl, HB.out⟩

set_option maxHeartbeats 2000000 in
set_option maxRecDepth 100000 in
theorem sections_none (s c : Int) (l : List Int) (hl : l.length = 24) (n d : Int) (w : World) (h1 : n ≤ 5000 ∨ 100000 < n) (h : ¬ okN s c l n) :
    Calls Try.prog 4 #[.agg (tabA s c l), .int .i64 n, .int .i64 d] w fun e w' => e = .returned (.bool true) ∧ Below w.heap.size w w' := by
  have HL := Lib.hid hl
  have HT := Lib.hid (TabAt.box w s c l 24)
  have HS := Lib.hid (size_tab s c l hl)
  have HSEC := Lib.hid (fun w => sections_no s c l hl n w h)
  have HRSEC := Lib.hid (fun w => refsections_no s c l hl n w h)
  obtain ⟨bp, hp1, hp2⟩ := pre_both s c l hl n d
  obtain ⟨v, hv1, hv2⟩ := long_both s c l hl
  have HP1 := Lib.hid hp1
  have HP2 := Lib.hid hp2
  have HV1 := Lib.hid hv1
  have HV2 := Lib.hid hv2
  have hbe : (bp == bp) = true := by simp
  have hve : (v == v) = true := by simp
  clear hl h hp1 hp2 hv1 hv2
  go_enter Try.func4, Try.ntmps4
  go_upto_region 1 with (fail)
  generalize w.alloc _ = wA at HT ⊢
  rcases h1 with h1 | h1
  · have hd : decide (5000 < n) = false := by simp; omega
    clear h1
    go_upto_region 4 with (first
      | (refine wpList_load_mid rfl 24 (Operand.tmp 3) rfl w.heap.size 0 rfl (tabL s c l) _ HT.out.whole Try.underlying24 rfl HS.out ?_)
      | (go_at_call 14; refine (HSEC.out _).mono ?_; rintro e w1 ⟨rfl, hb1⟩))
    have HT1 := Lib.hid (HT.out.call hb1)
    clear hb1 HT
    go_upto_region 5 with (first
      | (refine wpList_load_mid rfl 24 (Operand.tmp 3) rfl w.heap.size 0 rfl (tabL s c l) _ HT1.out.whole Try.underlying24 rfl HS.out ?_)
      | (go_at_call 8; refine (from_any s c l HL.out _).mono ?_; rintro e w2 ⟨rfl, hb2⟩)
      | (go_at_call 15; refine (HRSEC.out _).mono ?_; rintro e w3 ⟨rfl, hb3⟩))
    have HT3 := Lib.hid ((HT1.out.call hb2).call hb3)
    clear hb2 hb3 HT1
    go_wp2
    go_loop [11] (fun i => i = .int .i64 0) (fun _ => 1)
    case atStart => rfl
    case round =>
      obtain rfl := hrel
      go_upto_region 12 with (fail)
      have HRG : Hid (∀ v, (∃ p : Regrown, v = Sort.grow (redrawn w3 p.d) p.os) → v.rangeAt w.heap.size 0 (tabL s c l)) := fun v ⟨p, hp⟩ j x hx => by rw [hp]; exact cell_regrown (HT3.out.whole j x hx) _ _
      refine wp_region_quiet_below (by kernel_rfl) (by kernel_rfl) ?_
      repeat (first
        | (refine BigFrame.wpQuiet_want rfl (fun K hK => ?_)
           refine quiet_load_mid 24 _ rfl w.heap.size 0 rfl (tabL s c l) _ HRG.out Try.underlying24 rfl HS.out ?_
           refine hK _ ?_
           clear hK K)
        | go_big_quiet_skip
        | quiet_step (first
          | (go_at_call 16; exact Calls.regrown_of (HP1.out _))
          | (go_at_call 17; exact Calls.regrown_of (HP2.out _))
          | (go_at_call 8; exact Calls.regrown_of (from_any s c l HL.out _))
          | (go_at_call 18; exact Calls.regrown_of (HV1.out _))
          | (go_at_call 19; exact Calls.regrown_of (HV2.out _))
          | (go_at_call 13; exact Calls.regrown_of (awake_any _))))
      refine wpQuiet_nil ?_
      intro _ hw'
      obtain ⟨⟨dq, osq⟩, hw''⟩ := hw'
      subst hw''
      have HB : Hid (Below w.heap.size w (Sort.grow (redrawn w3 dq) osq)) := below_call HT3.out.below (below_regrown _ _ _)
      go_wp2
      go_ret
      exact ⟨rfl, HB.out⟩
  · have hd0 : 5000 < n := by omega
    have hd : decide (n ≤ 100000) = false := by simp; omega
    clear h1
    go_upto_region 4 with (first
      | (refine wpList_load_mid rfl 24 (Operand.tmp 3) rfl w.heap.size 0 rfl (tabL s c l) _ HT.out.whole Try.underlying24 rfl HS.out ?_)
      | (go_at_call 14; refine (HSEC.out _).mono ?_; rintro e w1 ⟨rfl, hb1⟩))
    have HT1 := Lib.hid (HT.out.call hb1)
    clear hb1 HT
    go_upto_region 5 with (first
      | (refine wpList_load_mid rfl 24 (Operand.tmp 3) rfl w.heap.size 0 rfl (tabL s c l) _ HT1.out.whole Try.underlying24 rfl HS.out ?_)
      | (go_at_call 8; refine (from_any s c l HL.out _).mono ?_; rintro e w2 ⟨rfl, hb2⟩)
      | (go_at_call 15; refine (HRSEC.out _).mono ?_; rintro e w3 ⟨rfl, hb3⟩))
    have HT3 := Lib.hid ((HT1.out.call hb2).call hb3)
    clear hb2 hb3 HT1
    go_wp2
    go_loop [11] (fun i => i = .int .i64 0) (fun _ => 1)
    case atStart => rfl
    case round =>
      obtain rfl := hrel
      go_upto_region 12 with (fail)
      have HRG : Hid (∀ v, (∃ p : Regrown, v = Sort.grow (redrawn w3 p.d) p.os) → v.rangeAt w.heap.size 0 (tabL s c l)) := fun v ⟨p, hp⟩ j x hx => by rw [hp]; exact cell_regrown (HT3.out.whole j x hx) _ _
      refine wp_region_quiet_below (by kernel_rfl) (by kernel_rfl) ?_
      repeat (first
        | (refine BigFrame.wpQuiet_want rfl (fun K hK => ?_)
           refine quiet_load_mid 24 _ rfl w.heap.size 0 rfl (tabL s c l) _ HRG.out Try.underlying24 rfl HS.out ?_
           refine hK _ ?_
           clear hK K)
        | go_big_quiet_skip
        | quiet_step (first
          | (go_at_call 16; exact Calls.regrown_of (HP1.out _))
          | (go_at_call 17; exact Calls.regrown_of (HP2.out _))
          | (go_at_call 8; exact Calls.regrown_of (from_any s c l HL.out _))
          | (go_at_call 18; exact Calls.regrown_of (HV1.out _))
          | (go_at_call 19; exact Calls.regrown_of (HV2.out _))
          | (go_at_call 13; exact Calls.regrown_of (awake_any _))))
      refine wpQuiet_nil ?_
      intro _ hw'
      obtain ⟨⟨dq, osq⟩, hw''⟩ := hw'
      subst hw''
      have HB : Hid (Below w.heap.size w (Sort.grow (redrawn w3 dq) osq)) := below_call HT3.out.below (below_regrown _ _ _)
      go_wp2
      go_ret
      exact ⟨rfl, HB.out⟩

/-- The law: sections. -/
theorem sections_walk (s c : Int) (l : List Int) (hl : l.length = 24) (n d : Int) (w : World) :
    Calls Try.prog 4 #[.agg (tabA s c l), .int .i64 n, .int .i64 d] w fun e w' => e = .returned (.bool true) ∧ Below w.heap.size w w' := by
  by_cases h1 : 5000 < n ∧ n ≤ 100000
  · exact sections_skip s c l hl n d w h1.1 h1.2
  · by_cases h : okN s c l n
    · exact sections_tail s c l hl n d w (by have := h.2.2; omega) h
    · exact sections_none s c l hl n d w (by omega) h
end Go.Proofs.Ytgbbidgmhmbehaa
