/- Timers: Next of a set. -/
import Derived.Test.YtkjokmfhmppinaaOk
namespace Go.Proofs.Ytkjokmfhmppinaa
open Go.RowKit Go.Maps
set_option linter.unusedVariables false

theorem Fr.newRow {S : Nat → Prop} {W A B : World} {r : Nat} (h : Fr S W A) (g : Fr (fun k => k = r) A B) (hr : W.heap.size ≤ r) : Fr S W B := h.over g (fun i e => .inr (by subst e; exact hr))
set_option maxRecDepth 100000 in
set_option maxHeartbeats 4000000 in
theorem next_ok {W : World} {B b : Nat} {l : TS} {c : Int} (h : TQ W B b l c) (hsp : SpI l) : Calls Try.prog 13 #[.pointer (some ⟨B, 0, none⟩)] W fun e w' => e = .returned (.tuple #[.int .i64 (nxV l), .bool (nx l).isSome]) ∧ Fr No W w' := by
  have HS := Lib.hid h
  have HP := Lib.hid hsp
  have c0 : W.cell? ⟨B, 0, none⟩ = some (.map (some b)) := h.row.cell 0
  have HM := Lib.hid h.map
  clear h hsp
  go_enter Try.func13, Try.ntmps13
  go_wp2_with (first
    | (go_at_call 34; refine (ismade_ok HS.out).mono ?_; rintro e w2 ⟨rfl, f2⟩; subst f2)
    | (at_range; refine wpList_range_own _ rfl _ 65 rfl 3 81 keyedI Try.underlying65 tmR b l.length _ rfl HM.out ?_; intro w0 hrg0 hg0 hs0))
  go_frame
  have HRG0 := Lib.hid hrg0
  have HF0 : Hid (Fr No W w0) := Fr.grown hg0 (fun k e => by cases e)
  clear hrg0 hg0 hs0 c0
  generalize hr : W.heap.size = r at HRG0 ⊢
  have HR := Lib.hid hr
  clear hr
  go_loopw [4, 5] (fun v4 v5 wr => ∃ (v : Int) (s : Bool) (left : Lit → Bool) (cnt : Nat), v4 = .int .i64 v ∧ v5 = .bool s ∧ Hid (NX l left v s ∧ wr.ranges Try.prog 3 tmR b r l.length (Dof l) left cnt ∧ Fr No W wr)) (fun _ _ wr => wr.rangeLeft b r)
  case atStart => exact ⟨0, false, _, _, rfl, rfl, NX.start l, HRG0.out, HF0.out⟩
  case round =>
    obtain ⟨v, s, left, cnt, rfl, rfl, HI⟩ := hrel
    have HRG := Lib.hid HI.out.2.1
    go_wp2_with (at_next; refine wpList_nextT rfl _ rfl b r l.length l _ _ rfl HRG.out ?_ ?_)
    · intro hl0
      have HV := Lib.hid (HI.out.1.fin HS.out.sorted hl0)
      go_wp2
      go_ret2
      exact ⟨by rw [← HV.out.1, ← HV.out.2]; rfl, HI.out.2.2⟩
    · intro x t w1 cnt1 hwx hlx hg hrg1 hlt hf1 hen
      have HG := Lib.hid hg
      have HF1 : Hid (Fr No W w1) := HI.out.2.2.newRow hf1 (by rw [HR.out]; exact Nat.le_refl _)
      have HRG1 := Lib.hid hrg1
      have HMS : Hid (cnt1 < wr.rangeLeft b r) := by show _ < _; rw [HRG.out.left_eq]; exact hlt
      have HD := Lib.hid (HP.out.dl hg)
      have HNX := Lib.hid HI.out.1
      clear hwx hlx hg hrg1 hlt hf1
      unfold tmE at hen ⊢
      have HX := Lib.hid (RowAt.new w1 81 (tcs t))
      have HFX : Hid (Fr No w1 (w1.alloc (.cells (tcs t) 81))) := Fr.alloc _ _ _
      have HLT : Hid (b < w1.heap.size ∧ r < w1.heap.size) := ⟨World.ownsMap.lt HRG1.out.owns, HRG1.out.lt⟩
      go_upto_region 7 with (first
        | ((with_reducible refine st_gate ?_); refine wpList_store_row rfl 81 (Operand.tmp 7) (Operand.tmp 19) rfl w1.heap.size (tcs t) rfl rfl _ (tcs tz) (RowAt.new w1 _ _) (tcs_size t) rfl (tcs_one t) ?_; rw [World.setRow_alloc_new]))
      clear hen
      generalize World.alloc w1 _ = W2 at HX HFX ⊢
      generalize w1.heap.size = X at HX HLT ⊢
      have HSP : Hid (∀ w, Fr No W2 w → w.rangeAt X 6 [Value.int .i64 t.f, .int .i64 t.i, .int .i64 t.t]) := fun w f j v hv => by
        have hx := HX.out.fr f id
        match j, hv with
        | 0, hv => cases hv; exact hx.cell 6
        | 1, hv => cases hv; exact hx.cell 7
        | 2, hv => cases hv; exact hx.cell 8
      have HA := Lib.hid (isarmed_any t.f t.i t.t)
      have HDL := Lib.hid (fun w => deadline_any t.f t.i t.t w HD.out.1.1 HD.out.1.2 HD.out.2.2.1 HD.out.2.2.2)
      unfold spV at HA HDL
      have HRK : Hid (∀ w, Fr No W2 w → w.ranges Try.prog 3 tmR b r l.length (Dof l) (fun z => left z && !z.sameKey (kl x)) cnt1) := fun w f => HRG1.out.kept (row := none) ⟨f.os.trans HFX.out.os, f.tape.trans HFX.out.tape, f.output.trans HFX.out.output, Nat.le_trans HFX.out.size f.size, fun i hi _ => (f.block i (Nat.lt_of_lt_of_le hi HFX.out.size) id).trans (HFX.out.block i hi id)⟩ (by simp) (by simp)
      have HFK : Hid (∀ w, Fr No W2 w → Fr No W w) := fun w f => (HF1.out.trans HFX.out).trans f
      have HMK : Hid (∀ w, Fr No W2 w → w.rangeLeft b r < wr.rangeLeft b r) := fun w f => by rw [(HRK.out w f).left_eq]; exact HMS.out
      clear HF1 HFX HRG1 HRG HI HMS
      by_cases hf : t.f = 0
      · have hb : (!(t.f == 0)) = false := by simp [hf]
        rw [hb] at HA
        have HN2 := Lib.hid (HNX.out.skip HG.out hf)
        clear hf hb
        go_wp2_with (first
          | ((with_reducible refine ld_gate ?_); refine wpList_load_mid rfl 31 (Operand.tmp 20) rfl X 6 rfl [_, _, _] _ (HSP.out _ (Fr.refl _ _)) Try.underlying31 rfl size_spec ?_; go_frame)
          | (go_at_call 35; refine (HA.out _).mono ?_; rintro e w3 ⟨rfl, f3⟩; have F3 := Lib.hid f3; clear f3))
        go_roundw
        case rel => exact ⟨v, s, _, _, rfl, rfl, HN2.out, HRK.out _ F3.out, HFK.out _ F3.out⟩
        case measure => exact HMK.out _ F3.out
      · have hb : (!(t.f == 0)) = true := by simp [hf]
        rw [hb] at HA
        have HF := Lib.hid hf
        clear hf hb
        cases hs : s
        · subst hs
          have HN2 := Lib.hid (HNX.out.take HG.out HF.out (fun e => by cases e))
          go_wp2_with (first
            | ((with_reducible refine ld_gate ?_); refine wpList_load_mid rfl 31 (Operand.tmp 20) rfl X 6 rfl [_, _, _] _ (HSP.out _ (Fr.refl _ _)) Try.underlying31 rfl size_spec ?_; go_frame)
            | (go_at_call 35; refine (HA.out _).mono ?_; rintro e w3 ⟨rfl, f3⟩; have F3 := Lib.hid f3; clear f3)
            | ((with_reducible refine ld_gate ?_); refine wpList_load_mid rfl 31 (Operand.tmp 34) rfl X 6 rfl [_, _, _] _ (HSP.out _ F3.out) Try.underlying31 rfl size_spec ?_; go_frame)
            | (go_at_call 36; refine (HDL.out _).mono ?_; rintro e w4 ⟨rfl, f4⟩; have F4 := Lib.hid (F3.out.trans f4); clear f4))
          go_roundw
          case rel => exact ⟨_, true, _, _, rfl, rfl, HN2.out, HRK.out _ F4.out, HFK.out _ F4.out⟩
          case measure => exact HMK.out _ F4.out
        · subst hs
          by_cases hv : t.f + t.t < v
          · have HN2 := Lib.hid (HNX.out.take HG.out HF.out (fun e => hv))
            have hd : decide (t.f + t.t < v) = true := by simpa using hv
            clear hv
            go_wp2_with (first
              | ((with_reducible refine ld_gate ?_); refine wpList_load_mid rfl 31 (Operand.tmp 20) rfl X 6 rfl [_, _, _] _ (HSP.out _ (Fr.refl _ _)) Try.underlying31 rfl size_spec ?_; go_frame)
              | (go_at_call 35; refine (HA.out _).mono ?_; rintro e w3 ⟨rfl, f3⟩; have F3 := Lib.hid f3; clear f3)
              | ((with_reducible refine ld_gate ?_); refine wpList_load_mid_g (by rfl) 31 (Operand.tmp 27) rfl X 6 rfl [_, _, _] _ (HSP.out _ F3.out) Try.underlying31 rfl size_spec ?_; go_frame)
              | (go_at_call 36; refine (HDL.out _).mono ?_; rintro e w4 ⟨rfl, f4⟩; have F4 := Lib.hid (F3.out.trans f4); clear f4)
              | ((with_reducible refine ld_gate ?_); refine wpList_load_mid rfl 31 (Operand.tmp 34) rfl X 6 rfl [_, _, _] _ (HSP.out _ F4.out) Try.underlying31 rfl size_spec ?_; go_frame)
              | (go_at_call 36; refine (HDL.out _).mono ?_; rintro e w5 ⟨rfl, f5⟩; have F5 := Lib.hid (F4.out.trans f5); clear f5))
            go_roundw
            case rel => exact ⟨_, true, _, _, rfl, rfl, HN2.out, HRK.out _ F5.out, HFK.out _ F5.out⟩
            case measure => exact HMK.out _ F5.out
          · have HN2 := Lib.hid (HNX.out.keep HG.out hv)
            have hd : decide (t.f + t.t < v) = false := by simpa using hv
            clear hv
            go_wp2_with (first
              | ((with_reducible refine ld_gate ?_); refine wpList_load_mid rfl 31 (Operand.tmp 20) rfl X 6 rfl [_, _, _] _ (HSP.out _ (Fr.refl _ _)) Try.underlying31 rfl size_spec ?_; go_frame)
              | (go_at_call 35; refine (HA.out _).mono ?_; rintro e w3 ⟨rfl, f3⟩; have F3 := Lib.hid f3; clear f3)
              | ((with_reducible refine ld_gate ?_); refine wpList_load_mid_g (by rfl) 31 (Operand.tmp 27) rfl X 6 rfl [_, _, _] _ (HSP.out _ F3.out) Try.underlying31 rfl size_spec ?_; go_frame)
              | (go_at_call 36; refine (HDL.out _).mono ?_; rintro e w4 ⟨rfl, f4⟩; have F4 := Lib.hid (F3.out.trans f4); clear f4))
            go_roundw
            case rel => exact ⟨v, true, _, _, rfl, rfl, HN2.out, HRK.out _ F4.out, HFK.out _ F4.out⟩
            case measure => exact HMK.out _ F4.out
end Go.Proofs.Ytkjokmfhmppinaa
