/- The contract of the specification's Path; what both Paths answer. -/
import Derived.Test.YtgbbidgmhmbehaaPa
namespace Go.Proofs.Ytgbbidgmhmbehaa
open Go.RowKit
set_option linter.unusedVariables false

set_option maxHeartbeats 1000000 in
set_option maxRecDepth 100000 in
theorem path_empty (s c : Int) (l : List Int) (hl : l.length = 24) (a : Option Addr) (cap : Nat) (w : World) (h : okT s c l) :
    Calls Try.prog 20 #[.agg (tabA s c l), .slice a 0 cap] w fun e w' => e = .returned (.tuple #[.int .i64 0, .int .i64 0]) ∧ Below w.heap.size w w' := by
  have HL := Lib.hid hl
  have HT := Lib.hid (TabAt.box w s c l 24)
  have HS := Lib.hid (size_tab s c l hl)
  have HH := Lib.hid h
  clear hl h
  go_enter Try.func20, Try.ntmps20
  go_upto_region 1 with (fail)
  generalize w.alloc _ = wA at HT ⊢
  go_wp2_with (first
    | (refine wpList_load_mid rfl 24 (Operand.tmp 2) rfl w.heap.size 0 rfl (tabL s c l) _ HT.out.whole Try.underlying24 rfl HS.out ?_)
    | (go_at_call 9; refine (check_ok s c l HL.out _ HH.out).mono ?_; rintro e w1 ⟨rfl, hb⟩))
  have HT1 := Lib.hid (HT.out.call hb)
  clear hb HT
  go_loop [6, 19] (fun m i => i = .int .i64 0 ∧ m = .int .i64 0) (fun _ _ => 1)
  case atStart => exact ⟨rfl, rfl⟩
  case round =>
    obtain ⟨rfl, rfl⟩ := hrel
    go_wp2
    go_ret2
    exact ⟨rfl, HT1.out.below⟩

set_option maxHeartbeats 1000000 in
set_option maxRecDepth 100000 in
theorem refpath_bad (s c : Int) (l : List Int) (hl : l.length = 24) (a : Option Addr) (n cap : Nat) (w : World) (h : ¬ okT s c l) :
    Calls Try.prog 21 #[.agg (tabA s c l), .slice a n cap] w fun e w' => e = .returned (.tuple #[.int .i64 0, .int .i64 34]) ∧ Below w.heap.size w w' := by
  have HL := Lib.hid hl
  have HT := Lib.hid (TabAt.box w s c l 29)
  have HS := Lib.hid (size_rtab s c l hl)
  have HH := Lib.hid h
  clear hl h
  go_enter Try.func21, Try.ntmps21
  go_wp2_with (first
    | (refine wpList_load_mid rfl 29 (Operand.tmp 2) rfl w.heap.size 0 rfl (tabL s c l) _ HT.out.whole Try.underlying29 rfl HS.out ?_)
    | (go_at_call 10; refine (refcheck_no s c l HL.out _ HH.out).mono ?_; rintro e w1 ⟨rfl, hb⟩))
  go_ret2
  exact ⟨rfl, (HT.out.call hb).below⟩

set_option maxHeartbeats 1000000 in
set_option maxRecDepth 100000 in
theorem refpath_long (s c : Int) (l : List Int) (hl : l.length = 24) (a : Option Addr) (n cap : Nat) (w : World) (h : okT s c l) (hn : 1000 < n) (hm : n ≤ 9223372036854775807) :
    Calls Try.prog 21 #[.agg (tabA s c l), .slice a n cap] w fun e w' => e = .returned (.tuple #[.int .i64 0, .int .i64 18]) ∧ Below w.heap.size w w' := by
  have HL := Lib.hid hl
  have HT := Lib.hid (TabAt.box w s c l 29)
  have HS := Lib.hid (size_rtab s c l hl)
  have HH := Lib.hid h
  have hni : (1000 : Int) < (n : Int) := by omega
  clear hl h
  go_enter Try.func21, Try.ntmps21
  go_wp2_with (first
    | (refine wpList_load_mid rfl 29 (Operand.tmp 2) rfl w.heap.size 0 rfl (tabL s c l) _ HT.out.whole Try.underlying29 rfl HS.out ?_)
    | (go_at_call 10; refine (refcheck_ok s c l HL.out _ HH.out).mono ?_; rintro e w1 ⟨rfl, hb⟩))
  go_ret2
  exact ⟨rfl, (HT.out.call hb).below⟩

set_option maxHeartbeats 1000000 in
set_option maxRecDepth 100000 in
theorem refpath_empty (s c : Int) (l : List Int) (hl : l.length = 24) (a : Option Addr) (cap : Nat) (w : World) (h : okT s c l) :
    Calls Try.prog 21 #[.agg (tabA s c l), .slice a 0 cap] w fun e w' => e = .returned (.tuple #[.int .i64 0, .int .i64 0]) ∧ Below w.heap.size w w' := by
  have HL := Lib.hid hl
  have HT := Lib.hid (TabAt.box w s c l 29)
  have HS := Lib.hid (size_rtab s c l hl)
  have HH := Lib.hid h
  clear hl h
  go_enter Try.func21, Try.ntmps21
  go_upto_region 1 with (fail)
  generalize w.alloc _ = wA at HT ⊢
  go_wp2_with (first
    | (refine wpList_load_mid rfl 29 (Operand.tmp 2) rfl w.heap.size 0 rfl (tabL s c l) _ HT.out.whole Try.underlying29 rfl HS.out ?_)
    | (go_at_call 10; refine (refcheck_ok s c l HL.out _ HH.out).mono ?_; rintro e w1 ⟨rfl, hb⟩))
  have HT1 := Lib.hid (HT.out.call hb)
  clear hb HT
  go_loop [6, 7] (fun m i => i = .int .i64 0 ∧ m = .int .i64 0) (fun _ _ => 1)
  case atStart => exact ⟨rfl, rfl⟩
  case round =>
    obtain ⟨rfl, rfl⟩ := hrel
    go_wp2
    go_ret2
    exact ⟨rfl, HT1.out.below⟩

set_option maxHeartbeats 2000000 in
set_option maxRecDepth 100000 in
theorem refpath_ok (s c : Int) (l : List Int) (hl : l.length = 24) (b off cap : Nat) (C : List (Int × Int)) (w : World) (h : okT s c l) (hn : C.length ≤ 1000) (hC : CallsAt w b off C) :
    Calls Try.prog 21 #[.agg (tabA s c l), .slice (some ⟨b, off, none⟩) C.length cap] w fun e w' => e = .returned (.tuple #[.int .i64 (pathF c l C 0).1, .int .i64 (pathF c l C 0).2]) ∧ Below w.heap.size w w' := by
  have HL := Lib.hid hl
  have HT := Lib.hid (TabAt.box w s c l 29)
  have HS := Lib.hid (size_rtab s c l hl)
  have HH := Lib.hid h
  have HC := Lib.hid hC
  have hd : decide ((1000 : Int) < (C.length : Int)) = false := by simp; omega
  clear hl h hC
  go_enter Try.func21, Try.ntmps21
  go_upto_region 1 with (fail)
  generalize w.alloc _ = wA at HT ⊢
  go_wp2_with (first
    | (refine wpList_load_mid rfl 29 (Operand.tmp 2) rfl w.heap.size 0 rfl (tabL s c l) _ HT.out.whole Try.underlying29 rfl HS.out ?_)
    | (go_at_call 10; refine (refcheck_ok s c l HL.out _ HH.out).mono ?_; rintro e w1 ⟨rfl, hb⟩))
  have HT1 := Lib.hid (HT.out.call hb)
  clear hb HT
  go_loopw [6, 7] (fun m i wr => ∃ (k : Nat) (y : Int), k ≤ C.length ∧ i = .int .i64 k ∧ m = .int .i64 y ∧ 0 ≤ y ∧ y ≤ 26600 * (k : Int) ∧ Hid (pathF c l (C.drop k) y = pathF c l C 0) ∧ Hid (TabAt w w.heap.size s c l wr)) (fun _ i _ => C.length - (intOf i).toNat)
  case atStart => exact ⟨0, 0, by omega, rfl, rfl, by omega, by omega, rfl, HT1⟩
  case round =>
    obtain ⟨k, y, hk, rfl, rfl, hy0, hy1, HP, HTR⟩ := hrel
    by_cases hlt : k < C.length
    · have hki : (k : Int) < (C.length : Int) := by omega
      have hk0 : (0 : Int) ≤ (k : Int) := by omega
      have hcs := (HC.out.call HTR.out.below).2 k hlt
      obtain ⟨c1, c2⟩ := hcs
      have hdr := drop_at hlt
      have hstep := HP.out
      rw [hdr] at hstep
      generalize C.getD k (0, 0) = x at c1 c2 hdr hstep
      obtain ⟨xo, xb⟩ := x
      simp only at c1 c2
      have HSTEP := Lib.hid hstep
      clear hdr hstep
      have hbd := costN_bd HH.out HL.out xo xb
      obtain ⟨hb1, hb2⟩ := hbd
      have cc1 := fun d os => cell_regrown c1 d os
      have cc2 := fun d os => cell_regrown c2 d os
      go_upto_region 9 with (fail)
      clear c1 c2
      have HRG : Hid (∀ v, (∃ p : Regrown, v = Sort.grow (redrawn wr p.d) p.os) → v.rangeAt w.heap.size 0 (tabL s c l)) := fun v ⟨p, hp⟩ j x hx => by rw [hp]; exact cell_regrown (HTR.out.whole j x hx) _ _
      refine wp_region_quiet_below (by kernel_rfl) (by kernel_rfl) ?_
      repeat (first
        | (refine BigFrame.wpQuiet_want rfl (fun K hK => ?_)
           refine quiet_load_mid 29 _ rfl w.heap.size 0 rfl (tabL s c l) _ HRG.out Try.underlying29 rfl HS.out ?_
           refine hK _ ?_
           clear hK K)
        | go_big_quiet_skip
        | quiet_step ((go_at_call 7; exact Calls.regrown_of (refcost_any s c l HL.out xo xb _ _ _ (costV_at HH.out xo xb)))))
      refine wpQuiet_nil ?_
      intro _ hw'
      obtain ⟨⟨dq, osq⟩, hw''⟩ := hw'
      subst hw''
      have HT2 := Lib.hid (HTR.out.call (below_regrown wr dq osq))
      clear cc1 cc2
      generalize Sort.grow (redrawn wr dq) osq = wB at HT2 ⊢
      by_cases he : costE xo xb = 0
      · have HNX : Hid (pathF c l (C.drop (k + 1)) (y + costN c l xo xb) = pathF c l C 0) := by show _ = _; rw [← HSTEP.out, pathF, if_pos he]
        rw [he]
        clear he
        generalize costN c l xo xb = v at hb1 hb2 HNX ⊢
        go_wp2
        go_roundw
        case rel => exact ⟨k + 1, y + v, by omega, by go_num, rfl, by omega, by omega, HNX, HT2⟩
        case measure => simp [intOf]; omega
      · have HNX : Hid (pathF c l C 0 = (0, costE xo xb)) := by show _ = _; rw [← HSTEP.out, pathF, if_neg he]
        have hne : (costE xo xb != 0) = true := by simpa using he
        generalize costE xo xb = e9 at HNX hne ⊢
        clear he
        go_wp2
        go_ret2
        exact ⟨by rw [HNX.out]; rfl, HT2.out.below⟩
    · obtain rfl : k = C.length := by omega
      have HP2 : Hid (pathF c l C 0 = (y, 0)) := by show _ = _; rw [← HP.out, List.drop_length]; rfl
      have hdd : decide ((C.length : Int) < (C.length : Int)) = false := by simp
      go_wp2
      go_ret2
      exact ⟨by rw [HP2.out]; rfl, HTR.out.below⟩

/-- What both Paths answer: at calls that lie somewhere. -/
theorem path_both (s c : Int) (l : List Int) (hl : l.length = 24) (C : List (Int × Int)) (hm : C.length ≤ 9223372036854775807) : ∃ v e0 : Int,
    (∀ w b off cap, CallsAt w b off C → Calls Try.prog 20 #[.agg (tabA s c l), .slice (some ⟨b, off, none⟩) C.length cap] w fun e w' => e = .returned (.tuple #[.int .i64 v, .int .i64 e0]) ∧ Below w.heap.size w w') ∧
    (∀ w b off cap, CallsAt w b off C → Calls Try.prog 21 #[.agg (tabA s c l), .slice (some ⟨b, off, none⟩) C.length cap] w fun e w' => e = .returned (.tuple #[.int .i64 v, .int .i64 e0]) ∧ Below w.heap.size w w') := by
  by_cases h : okT s c l
  · by_cases hn : C.length ≤ 1000
    · exact ⟨_, _, fun w b off cap hC => path_ok s c l hl b off cap C w h hn hC, fun w b off cap hC => refpath_ok s c l hl b off cap C w h hn hC⟩
    · exact ⟨0, 18, fun w b off cap hC => path_long s c l hl _ _ cap w h (by omega) hm, fun w b off cap hC => refpath_long s c l hl _ _ cap w h (by omega) hm⟩
  · exact ⟨0, 34, fun w b off cap hC => path_bad s c l hl _ _ cap w h, fun w b off cap hC => refpath_bad s c l hl _ _ cap w h⟩
/-- .. at no calls. -/
theorem path_both0 (s c : Int) (l : List Int) (hl : l.length = 24) : ∃ v e0 : Int,
    (∀ w a cap, Calls Try.prog 20 #[.agg (tabA s c l), .slice a 0 cap] w fun e w' => e = .returned (.tuple #[.int .i64 v, .int .i64 e0]) ∧ Below w.heap.size w w') ∧
    (∀ w a cap, Calls Try.prog 21 #[.agg (tabA s c l), .slice a 0 cap] w fun e w' => e = .returned (.tuple #[.int .i64 v, .int .i64 e0]) ∧ Below w.heap.size w w') := by
  by_cases h : okT s c l
  · exact ⟨0, 0, fun w a cap => path_empty s c l hl a cap w h, fun w a cap => refpath_empty s c l hl a cap w h⟩
  · exact ⟨0, 34, fun w a cap => path_bad s c l hl a 0 cap w h, fun w a cap => refpath_bad s c l hl a 0 cap w h⟩
end Go.Proofs.Ytgbbidgmhmbehaa
