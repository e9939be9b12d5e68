/- PartitionPlays: the walk, for configurations that are not valid. -/
import Derived.Test.YtbjpaemldnoinaaHl
namespace Go.Proofs.Ytbjpaemldnoinaa
open Go.RowKit
set_option linter.unusedVariables false

set_option maxRecDepth 100000 in
set_option maxHeartbeats 4000000 in
theorem plays_bad (W : World) (win pr : Int) (a : Option Addr) (cap : Nat) (P : List (Int × Int)) (hP : PartsIn W a P) (z : Int) (hz : cfgV win pr P = z) (h0 : z ≠ 0) (hl : P.length ≤ 20) (a1 : Option Addr) (cap1 : Nat) (A : List ActP) (hn : A.length ≤ 60) (hA : ActsP W a1 A) : Calls Try.prog 4 #[.agg #[.int .i64 win, .int .i64 pr, .slice a P.length cap], .slice a1 A.length cap1] W fun e w' => e = .returned (.bool true) ∧ Fr (fun _ => False) W w' := by
  have hf0 : Fr (fun _ => False) W (W.alloc (.cells #[.int .i64 win, .int .i64 pr, .slice a P.length cap] 40)) := Fr.alloc _ _ _
  have HF := Lib.hid hf0
  have HR := Lib.hid (RowAt.new W 40 #[.int .i64 win, .int .i64 pr, .slice a P.length cap])
  have HP := Lib.hid (hP.fr hf0 (fun _ _ _ => id))
  have HZ := Lib.hid hz
  have HA := Lib.hid hA
  have HN := Lib.hid hn
  have HL := Lib.hid hl
  have HZ0 := Lib.hid h0
  have z0 : (z != z) = false := by simp
  have g1 : decide ((20 : Int) < P.length) = false := decide_eq_false (by omega)
  have g2 : (A.length : Int) ≤ 60 := by omega
  clear hP hz hn hA hl h0 hf0
  go_enter Try.func4, Try.ntmps4
  go_upto_region 1 with (fail)
  generalize World.alloc W _ = W1 at HF HR HP ⊢
  generalize W.heap.size = x at HR ⊢
  have c0 : W1.cell? ⟨x, 0, none⟩ = some (.int .i64 win) := HR.out.cell 0
  have c1 : W1.cell? ⟨x, 1, none⟩ = some (.int .i64 pr) := HR.out.cell 1
  have c2 : W1.cell? ⟨x, 2, none⟩ = some (.slice a P.length cap) := HR.out.cell 2
  have HCX : Hid (∀ W2, Fr (fun _ => False) W1 W2 → W2.cell? ⟨x, 0, none⟩ = some (.int .i64 win) ∧ W2.cell? ⟨x, 1, none⟩ = some (.int .i64 pr) ∧ W2.cell? ⟨x, 2, none⟩ = some (.slice a P.length cap)) := fun W2 f => ⟨(HR.out.fr f id).cell 0, (HR.out.fr f id).cell 1, (HR.out.fr f id).cell 2⟩
  have HPN := Lib.hid (pnew_err W1 win pr a cap P HP.out z HZ.out HZ0.out)
  go_upto_region 4 with (go_at_call 19; refine HPN.out.mono ?_; rintro e W2 ⟨rfl, f2⟩; have F2 := Lib.hid f2; clear f2)
  clear HPN c0 c1 c2
  obtain ⟨c0, c1, c2⟩ := HCX.out _ F2.out
  have HFM := Lib.hid (from_any W2 win pr a cap P (HP.out.fr F2.out (fun _ _ _ => id)) HL.out)
  go_upto_region 5 with (first
    | (go_at_call 21; refine HFM.out.mono ?_; rintro e W3 ⟨a3, cap3, rfl, p3, f3⟩; have HP3 := Lib.hid p3; have F3 := Lib.hid f3; clear p3 f3)
    | (go_at_call 20; refine (rnew_err W3 win pr a3 cap3 P HP3.out z HZ.out HZ0.out).mono ?_; rintro e W4 ⟨rfl, f4⟩; have F4 := Lib.hid f4; clear f4))
  have HF4 := Lib.hid (F2.out.trans (F3.out.trans F4.out))
  clear HFM c0 c1 c2 HP3 F3 F4 F2
  obtain ⟨c0, c1, c2⟩ := HCX.out _ HF4.out
  have HCd : Hid (∀ W2, Fr (fun _ => False) W4.drew W2 → W2.cell? ⟨x, 0, none⟩ = some (.int .i64 win) ∧ W2.cell? ⟨x, 1, none⟩ = some (.int .i64 pr) ∧ W2.cell? ⟨x, 2, none⟩ = some (.slice a P.length cap)) := fun W2 f => HCX.out _ (HF4.out.trans ((Fr.drew _ _).trans f))
  have HPd : Hid (∀ W2, Fr (fun _ => False) W4.drew W2 → PartsIn W2 a P) := fun W2 f => HP.out.fr (HF4.out.trans ((Fr.drew _ _).trans f)) (fun _ _ _ => id)
  have HK1 : Hid (∀ W2, Fr (fun _ => False) W4.drew W2 → Calls Try.prog 22 #[.agg #[.int .i64 win, .int .i64 pr, .slice a P.length cap]] W2 fun e w' => e = .returned (.int .i64 z) ∧ Fr (fun _ => False) W2 w') := fun W2 f => by
    have := pcheck_any W2 win pr a cap P (HPd.out _ f); rw [HZ.out] at this; exact this
  have HK2 : Hid (∀ W2 a2 cap2, PartsIn W2 a2 P → Calls Try.prog 23 #[.agg #[.int .i64 win, .int .i64 pr, .slice a2 P.length cap2]] W2 fun e w' => e = .returned (.int .i64 z) ∧ Fr (fun _ => False) W2 w') := fun W2 a2 cap2 h => by
    have := rcheck_any W2 win pr a2 cap2 P h; rw [HZ.out] at this; exact this
  clear g1
  go_region_held3 (fun w' => w'.cell? ⟨x, 0, none⟩ = some (.int .i64 win) ∧ w'.cell? ⟨x, 1, none⟩ = some (.int .i64 pr) ∧ w'.cell? ⟨x, 2, none⟩ = some (.slice a P.length cap))
    (first | (with_reducible exact HCd.out _ F7.out) | (with_reducible exact HCd.out _ F6.out) | (with_reducible exact HCd.out _ F5.out) | exact ⟨c0, c1, c2⟩ | go_keep)
    (first
      | (go_at_call 22; refine (HK1.out _ (Fr.refl _ _)).mono ?_; rintro e W5 ⟨rfl, f5⟩; have F5 := Lib.hid f5; clear f5)
      | (go_at_call 21; refine (from_any W5 win pr a cap P (HPd.out _ F5.out) HL.out).mono ?_; rintro e W6 ⟨a6, cap6, rfl, p6, f6⟩; have HP6 := Lib.hid p6; have F6 := Lib.hid (F5.out.trans f6); clear p6 f6)
      | (go_at_call 23; refine (HK2.out _ a6 cap6 HP6.out).mono ?_; rintro e W7 ⟨rfl, f7⟩; have F7 := Lib.hid (F6.out.trans f7); clear f7))
  have HF7 := Lib.hid (HF4.out.trans ((Fr.drew _ _).trans F7.out))
  clear c0 c1 c2
  have HSA : Hid ((Try.prog.info? 56).map (·.size) = some 6) := by show _ = _; kernel_rfl
  clear HCX HCd HPd HK1 HK2 HF4
  go_wp2
  go_loopw [9, 10] (fun vn vi wr => ∃ (i : Nat) (now : Int), vi = .int .i64 i ∧ vn = .int .i64 now ∧ Hid (i ≤ A.length ∧ 0 ≤ now ∧ now ≤ 256 * i ∧ Fr (fun _ => False) W1 wr)) (fun vn vi _ => A.length - (intOf vi).toNat)
  case atStart => exact ⟨0, 0, rfl, rfl, Nat.zero_le _, Int.le_refl _, Int.le_refl _, HF7.out⟩
  case round =>
    obtain ⟨i, now, rfl, rfl, HRD⟩ := hrel
    have i0 : (0 : Int) ≤ i := by omega
    by_cases hi : i < A.length
    · have i1 : (i : Int) < A.length := by omega
      have i2 : (i : Int) < 60 := by have := HN.out; omega
      have n0 : 0 ≤ now := HRD.out.2.1
      have n1 : now ≤ 20000 := by have := HRD.out.2.2.1; omega
      have HI := Lib.hid hi
      obtain ⟨bb, off, y, rfl, hy, hr, hok⟩ := HA.out.get (HF.out.trans HRD.out.2.2.2) hi
      obtain ⟨yd, yg, yr, ya, yb, yc⟩ := y
      have HRR := Lib.hid hr
      have y0 : 0 ≤ yd := hok.1
      have y1 : yd < 256 := hok.2.1
      have y2 : 0 ≤ yg := hok.2.2.1
      have y3 : yg < 256 := hok.2.2.2
      have c0 : wr.cell? ⟨bb, off + i * 6, none⟩ = some (.int .u8 yd) := hr 0 _ rfl
      have c1 : wr.cell? ⟨bb, off + i * 6 + 1, none⟩ = some (.int .u8 yg) := hr 1 _ rfl
      have c2 : wr.cell? ⟨bb, off + i * 6 + 2, none⟩ = some (.int .i64 yr) := hr 2 _ rfl
      have c3 : wr.cell? ⟨bb, off + i * 6 + 3, none⟩ = some (.int .i64 ya) := hr 3 _ rfl
      have HC3 : Hid (∀ W2, Fr (fun _ => False) W1 W2 → W2.cell? ⟨bb, off + i * 6 + 3, none⟩ = some (.int .i64 ya)) := fun W2 f => by
        obtain ⟨bb', off', y', e1, e2, e3, _⟩ := HA.out.get (HF.out.trans f) HI.out
        cases e1
        rw [hy] at e2
        cases e2
        exact e3 3 _ rfl
      have HST : Hid (∀ t, Calls Try.prog 24 #[.pointer none, .pointer none, .agg (actP ⟨yd, yg, yr, ya, yb, yc⟩).toArray, .int .i64 t] wr fun e w' => e = .returned (.bool true) ∧ Fr (fun _ => False) wr w') := fun t => step_nil yd yg yr ya yb yc t y0 y1 wr
      have HMS : Hid (A.length - (intOf (Value.int IntKind.i64 ((i : Int) + 1))).toNat < A.length - (intOf (Value.int IntKind.i64 (i : Int))).toNat) := by
        show _ < _
        simp only [intOf]
        omega
      clear hi hy hr hok
      by_cases k1 : yd < 250
      · go_upto_region 15 with (fail)
        clear c0 c1 c2 k1
        go_wp2_with (first
          | (refine wpList_load_mid rfl 56 _ rfl bb (off + i * 6) rfl (actP ⟨yd, yg, yr, ya, yb, yc⟩) _ HRR.out Try.underlying56 rfl HSA.out ?_)
          | (go_at_call 24; refine (HST.out _).mono ?_; rintro e W5 ⟨rfl, g5⟩; have G5 := Lib.hid (HRD.out.2.2.2.trans g5); have d3 := HC3.out _ G5.out; clear g5 c3)
          | (go_at_call 25; refine (budget_nil _ _).mono ?_; rintro e w' ⟨rfl, rfl⟩)
          | (go_at_call 26; refine (rbudget_nil _ _).mono ?_; rintro e w' ⟨rfl, rfl⟩))
        go_roundw
        case rel => exact ⟨i + 1, now + yg, by push_cast; rfl, rfl, HI.out, by omega, by have := HRD.out.2.2.1; omega, G5.out⟩
        case measure => exact HMS.out
      · go_upto_region 15 with (fail)
        clear c0 c1 c2 k1
        go_wp2_with (first
          | (refine wpList_load_mid rfl 56 _ rfl bb (off + i * 6) rfl (actP ⟨yd, yg, yr, ya, yb, yc⟩) _ HRR.out Try.underlying56 rfl HSA.out ?_)
          | (go_at_call 24; refine (HST.out _).mono ?_; rintro e W5 ⟨rfl, g5⟩; have G5 := Lib.hid (HRD.out.2.2.2.trans g5); have d3 := HC3.out _ G5.out; clear g5 c3)
          | (go_at_call 25; refine (budget_nil _ _).mono ?_; rintro e w' ⟨rfl, rfl⟩)
          | (go_at_call 26; refine (rbudget_nil _ _).mono ?_; rintro e w' ⟨rfl, rfl⟩))
        go_roundw
        case rel => exact ⟨i + 1, now, by push_cast; rfl, rfl, HI.out, by omega, by have := HRD.out.2.2.1; omega, G5.out⟩
        case measure => exact HMS.out
    · have hlt : ¬ (i : Int) < A.length := by omega
      clear hi
      go_wp2_with (go_at_call 18; refine (awake_any _).mono ?_; rintro e W5 ⟨rfl, f5⟩; have F5 := Lib.hid f5; clear f5)
      go_ret
      exact ⟨rfl, HF.out.trans (HRD.out.2.2.2.trans F5.out)⟩
end Go.Proofs.Ytbjpaemldnoinaa
