/- The meter's count. -/
import Derived.Test.YtjaaljcdaamcjaaGreatMb
import Derived.Deep.Cut
namespace Go.Proofs.YtjaaljcdaamcjaaGreat.Pa
open Go.RowKit
set_option linter.unusedVariables false

def cu (l : List (Bool × Nat)) (p : Nat) : Nat := l.countP fun c => c.2 == p
def cc (l : List (Bool × Nat)) (p : Nat) : Nat := l.countP fun c => c.1 && c.2 == p
def cntQ (q : MQ) (l : List (Bool × Nat)) (sg : Int) : MQ := { q with use := fun p => q.use p + sg * cu l p, ucr := fun p => q.ucr p + sg * cc l p }
theorem cntQ_nil (q : MQ) (sg : Int) : cntQ q [] sg = q := by
  simp [cntQ, cu, cc]
theorem cu_le (l : List (Bool × Nat)) (p : Nat) : cu l p ≤ l.length := List.countP_le_length
theorem cc_le (l : List (Bool × Nat)) (p : Nat) : cc l p ≤ l.length := List.countP_le_length
theorem cntQ_plain (q : MQ) (l : List (Bool × Nat)) (p : Nat) (sg : Int) : { cntQ q l sg with use := updI (cntQ q l sg).use p ((cntQ q l sg).use p + sg) } = cntQ q (l ++ [(false, p)]) sg := by
  have h1 : updI (cntQ q l sg).use p ((cntQ q l sg).use p + sg) = (cntQ q (l ++ [(false, p)]) sg).use := by
    funext x
    show updI _ p _ x = q.use x + sg * cu (l ++ [(false, p)]) x
    rw [cu, List.countP_append, ← cu]
    by_cases e : x = p
    · subst e
      rw [updI_same]
      show q.use x + sg * cu l x + sg = _
      simp
      rw [Int.mul_add]; omega
    · rw [updI_other e]
      show q.use x + sg * cu l x = _
      have : (p == x) = false := by simpa using fun h => e h.symm
      simp [this]
  have h2 : (cntQ q l sg).ucr = (cntQ q (l ++ [(false, p)]) sg).ucr := by
    funext x
    show q.ucr x + sg * cc l x = q.ucr x + sg * cc (l ++ [(false, p)]) x
    rw [cc, cc, List.countP_append]; simp
  rw [h1]
  show MQ.mk _ _ _ _ _ _ (cntQ q l sg).ucr _ _ = _
  rw [h2]; rfl
theorem cntQ_crit (q : MQ) (l : List (Bool × Nat)) (p : Nat) (sg : Int) : { cntQ q l sg with use := updI (cntQ q l sg).use p ((cntQ q l sg).use p + sg), ucr := updI (cntQ q l sg).ucr p ((cntQ q l sg).ucr p + sg) } = cntQ q (l ++ [(true, p)]) sg := by
  have h1 : updI (cntQ q l sg).use p ((cntQ q l sg).use p + sg) = (cntQ q (l ++ [(true, p)]) sg).use := by
    funext x
    show updI _ p _ x = q.use x + sg * cu (l ++ [(true, p)]) x
    rw [cu, List.countP_append, ← cu]
    by_cases e : x = p
    · subst e
      rw [updI_same]
      show q.use x + sg * cu l x + sg = _
      simp
      rw [Int.mul_add]; omega
    · rw [updI_other e]
      show q.use x + sg * cu l x = _
      have : (p == x) = false := by simpa using fun h => e h.symm
      simp [this]
  have h2 : updI (cntQ q l sg).ucr p ((cntQ q l sg).ucr p + sg) = (cntQ q (l ++ [(true, p)]) sg).ucr := by
    funext x
    show updI _ p _ x = q.ucr x + sg * cc (l ++ [(true, p)]) x
    rw [cc, List.countP_append, ← cc]
    by_cases e : x = p
    · subst e
      rw [updI_same]
      show q.ucr x + sg * cc l x + sg = _
      simp
      rw [Int.mul_add]; omega
    · rw [updI_other e]
      show q.ucr x + sg * cc l x = _
      have : (p == x) = false := by simpa using fun h => e h.symm
      simp [this]
  rw [h1, h2]; rfl
/-- Where the loop stands. -/
def CntI (B : Nat) (q : MQ) (l : List (Bool × Nat)) (sg : Int) (W : World) (i : Nat) (w : World) : Prop := i ≤ l.length ∧ MAt w B (cntQ q (l.take i) sg) ∧ Fr (fun k => k = B) W w
theorem cnt_bound {x sg : Int} {n : Nat} (h : -1000000000 ≤ x ∧ x ≤ 1000000000) (hs : sg = 1 ∨ sg = -1) (hn : n ≤ 8) : -2000000000 ≤ x + sg * n ∧ x + sg * n ≤ 2000000000 := by
  rcases hs with rfl | rfl <;> omega

set_option maxRecDepth 100000 in
set_option maxHeartbeats 2000000 in
theorem count_any {W : World} {B : Nat} {q : MQ} (h : MAt W B q) (s : Nat) (hs : s < 1000) (hl : (q.sl s).length ≤ 8) (hp : ∀ c ∈ q.sl s, c.2 < 8) (hb : ∀ p, (-1000000000 ≤ q.use p ∧ q.use p ≤ 1000000000) ∧ (-1000000000 ≤ q.ucr p ∧ q.ucr p ≤ 1000000000)) (sg : Int) (hsg : sg = 1 ∨ sg = -1) : Calls Tryz.prog 195 #[.pointer (some ⟨B, 0, none⟩), .pointer (some ⟨B, 35 + s * 24, none⟩), .int .i64 sg] W fun e w' => (∃ v, e = .returned v) ∧ MAt w' B (cntQ q (q.sl s) sg) ∧ Fr (fun k => k = B) W w' := by
  have HH := Lib.hid h
  have HP := Lib.hid hp
  have HB := Lib.hid hb
  have HL := Lib.hid hl
  have HSG := Lib.hid hsg
  have g0 : -1 ≤ sg := by omega
  have g1 : sg ≤ 1 := by omega
  have HSL : Hid (∀ (i : Nat) (w : World), CntI B q (q.sl s) sg W i w → ∀ j f, j < 8 → f < 3 → w.cell? ⟨B, 35 + s * 24 + j * 3 + f, none⟩ = some (chgV (q.sl s)[j]? f)) := fun i w hw j f hj hf => hw.2.1.chg s j f hs hj hf
  have HS := Lib.hid hs
  clear h hp hb hl hsg hs
  go_enter Tryz.func195, Tryz.ntmps195
  go_wp2
  go_loopw [11] (fun vi wr => ∃ i : Nat, vi = .int .i64 i ∧ Hid (CntI B q (q.sl s) sg W i wr)) (fun vi _ => 8 - (intOf vi).toNat)
  case atStart => exact ⟨0, rfl, Nat.zero_le _, by rw [List.take_zero, cntQ_nil]; exact HH.out, Fr.refl _ _⟩
  case round =>
    obtain ⟨i, rfl, HR⟩ := hrel
    have i0 : (0 : Int) ≤ i := by omega
    by_cases hi : i < 8
    · have i1 : (i : Int) < 8 := by omega
      have d0 := HSL.out i wr HR.out i 0 hi (by omega)
      have d1 := HSL.out i wr HR.out i 1 hi (by omega)
      have d2 := HSL.out i wr HR.out i 2 hi (by omega)
      rw [Nat.add_zero] at d0
      cases hx : (q.sl s)[i]? with
      | none =>
        rw [hx] at d0 d1 d2
        have e0 : wr.cell? ⟨B, 35 + s * 24 + i * 3, none⟩ = some (.bool false) := d0
        have e1 : wr.cell? ⟨B, 35 + s * 24 + i * 3 + 1, none⟩ = some (.bool false) := d1
        have e2 : wr.cell? ⟨B, 35 + s * 24 + i * 3 + 2, none⟩ = some (.int .u8 0) := d2
        have HX := Lib.hid hx
        clear d0 d1 d2 hx hi
        go_wp2
        refine bodyPost_ret (results_none rfl _ _ _) rfl ⟨⟨_, rfl⟩, ?_⟩
        have he : (q.sl s).take i = q.sl s := List.take_of_length_le (List.getElem?_eq_none_iff.1 HX.out)
        have h1 := HR.out.2.1
        rw [he] at h1
        exact ⟨h1.fr (Fr.alloc (fun _ => False) _ _) id, HR.out.2.2.trans (Fr.alloc _ _ _)⟩
      | some c =>
        obtain ⟨cr, p⟩ := c
        rw [hx] at d0 d1 d2
        have e0 : wr.cell? ⟨B, 35 + s * 24 + i * 3, none⟩ = some (.bool true) := d0
        have e1 : wr.cell? ⟨B, 35 + s * 24 + i * 3 + 1, none⟩ = some (.bool cr) := d1
        have e2 : wr.cell? ⟨B, 35 + s * 24 + i * 3 + 2, none⟩ = some (.int .u8 (p : Int)) := d2
        have p0 : (0 : Int) ≤ p := by omega
        have hp8 := HP.out _ (List.mem_of_getElem? hx)
        have p8 : (p : Int) < 8 := by have : p < 8 := hp8; omega
        have HP8 : Hid (p < 8) := hp8
        have HX := Lib.hid hx
        have HIL : Hid (i < (q.sl s).length) := (List.getElem?_eq_some_iff.1 hx).1
        clear d0 d1 d2 hx hp8
        go_upto_region 4 with (fail)
        have HM := Lib.hid (HR.out.2.1.fr (Fr.alloc (fun _ => False) wr (.cells #[.bool true, .bool cr, .int .u8 (p : Int)] 146)) id)
        have HF := Lib.hid (HR.out.2.2.trans (Fr.alloc (fun k => k = B) wr (.cells #[.bool true, .bool cr, .int .u8 (p : Int)] 146)))
        have HC := Lib.hid (RowAt.new wr 146 #[.bool true, .bool cr, .int .u8 (p : Int)])
        have HBW : Hid (wr.heap.size ≠ B) := by have := HR.out.2.1.lt; show _ ≠ _; omega
        clear e0 e1 e2
        generalize wr.alloc _ = W2 at HM HF HC ⊢
        generalize wr.heap.size = b at HC HBW ⊢
        have b1 : W2.cell? ⟨b, 1, none⟩ = some (.bool cr) := HC.out.cell 1
        have b2 : W2.cell? ⟨b, 2, none⟩ = some (.int .u8 (p : Int)) := HC.out.cell 2
        go_region
        go_upto_region 5 with (fail)
        have HM3 : Hid (MAt W2.drew B (cntQ q ((q.sl s).take i) sg)) := HM.out
        have HF3 : Hid (Fr (fun k => k = B) W W2.drew) := HF.out.trans (Fr.drew _ _)
        have HC3 : Hid (RowAt W2.drew b 146 #[.bool true, .bool cr, .int .u8 (p : Int)]) := HC.out
        clear b1 b2
        generalize W2.drew = W3 at HM3 HF3 HC3 ⊢
        have hu := cnt_bound (HB.out p).1 HSG.out (Nat.le_trans (cu_le ((q.sl s).take i) p) (by rw [List.length_take]; have := HL.out; omega))
        have hc := cnt_bound (HB.out p).2 HSG.out (Nat.le_trans (cc_le ((q.sl s).take i) p) (by rw [List.length_take]; have := HL.out; omega))
        have c2 := HM3.out.use p HP8.out
        have f2 := HM3.out.frozen (3 + p * 4 + 2)
        obtain ⟨u, hu1⟩ : ∃ u, (cntQ q ((q.sl s).take i) sg).use p = u := ⟨_, rfl⟩
        obtain ⟨v, hv1⟩ : ∃ v, (cntQ q ((q.sl s).take i) sg).ucr p = v := ⟨_, rfl⟩
        have u1 : -2000000000 ≤ u ∧ u ≤ 2000000000 := by rw [← hu1]; exact hu
        have v1 : -2000000000 ≤ v ∧ v ≤ 2000000000 := by rw [← hv1]; exact hc
        obtain ⟨ua, ub⟩ := u1
        obtain ⟨va, vb⟩ := v1
        rw [hu1] at c2
        have HU := Lib.hid hu1
        have HV := Lib.hid hv1
        clear hu hc hu1 hv1
        go_upto_region 6 with (fail)
        have HM4 : Hid (MAt (W3.setCell ⟨B, 3 + p * 4 + 2, none⟩ (.int .i64 (u + sg))) B { cntQ q ((q.sl s).take i) sg with use := updI (cntQ q ((q.sl s).take i) sg).use p ((cntQ q ((q.sl s).take i) sg).use p + sg) }) := by
          have := HM3.out.setUse p HP8.out (u + sg)
          rw [HU.out]; exact this
        have HF4 : Hid (Fr (fun k => k = B) W (W3.setCell ⟨B, 3 + p * 4 + 2, none⟩ (.int .i64 (u + sg)))) := HF3.out.trans (Fr.set _ _ _ _ rfl)
        have HC4 : Hid (RowAt (W3.setCell ⟨B, 3 + p * 4 + 2, none⟩ (.int .i64 (u + sg))) b 146 #[.bool true, .bool cr, .int .u8 (p : Int)]) := HC3.out.other HBW.out _ _
        clear c2 f2
        generalize World.setCell W3 _ _ = W4 at HM4 HF4 HC4 ⊢
        have b1 : W4.cell? ⟨b, 1, none⟩ = some (.bool cr) := HC4.out.cell 1
        have HT : Hid ((q.sl s).take (i + 1) = (q.sl s).take i ++ [(cr, p)]) := by show _ = _; rw [List.take_add_one, HX.out]; rfl
        cases cr
        · go_wp2
          go_roundw
          case rel => exact ⟨i + 1, rfl, HIL.out, by have := HM4.out; rw [cntQ_plain] at this; rw [HT.out]; exact this, HF4.out⟩
          case measure =>
            show 8 - (intOf (Value.int .i64 ((i : Int) + 1))).toNat < 8 - (intOf (Value.int .i64 (i : Int))).toNat
            simp only [intOf]
            omega
        · have c3 : W4.cell? ⟨B, 3 + p * 4 + 3, none⟩ = some (.int .i64 v) := by have := HM4.out.ucr p HP8.out; rw [← HV.out]; exact this
          have f3 := HM4.out.frozen (3 + p * 4 + 3)
          go_wp2
          go_roundw
          case rel =>
            refine ⟨i + 1, rfl, HIL.out, ?_, HF4.out.trans (Fr.set _ _ _ _ rfl)⟩
            have := HM4.out.setUcr p HP8.out (v + sg)
            rw [HT.out, ← cntQ_crit]
            rw [← HV.out] at this ⊢
            exact this
          case measure =>
            show 8 - (intOf (Value.int .i64 ((i : Int) + 1))).toNat < 8 - (intOf (Value.int .i64 (i : Int))).toNat
            simp only [intOf]
            omega
    · have hlt : ¬ (i : Int) < 8 := by omega
      have HE : Hid ((q.sl s).take i = q.sl s) := List.take_of_length_le (by have := HL.out; omega)
      clear hi
      go_wp2
      go_end0
      have h1 := HR.out.2.1
      rw [HE.out] at h1
      exact ⟨⟨_, rfl⟩, h1, HR.out.2.2⟩
end Go.Proofs.YtjaaljcdaamcjaaGreat.Pa
