/- source. -/
import Derived.Test.YteikipiigbjgbaaGq
namespace Go.Proofs.Yteikipiigbjgbaa
open Go.RowKit
set_option linter.unusedVariables false

theorem src_lt {b D : Nat → Int} {k : Nat} (hne : srcAt b D k ≠ -1) : 0 ≤ srcAt b D k ∧ (srcAt b D k).toNat < k := by
  obtain ⟨a, c, _⟩ := (srcAt_holds b D k).2 hne
  exact ⟨a, c⟩
set_option maxRecDepth 100000 in
set_option maxHeartbeats 4000000 in
theorem source_any {gd m cap cap' : Nat} {a c : Option Addr} {bs : List Int} {D : Nat → Int} {W : World} (hb : NumsIn W a bs) (hr : RowAt W gd 3 (encPA bs.length D)) (hn : bs.length ≤ 256) :
    Calls Try.prog 36 #[.agg (graphV a bs.length cap c m cap'), .slice (some ⟨gd, 0, none⟩) bs.length bs.length] W fun e w' => e = .returned (.int .i64 (srcAt (fun i => bs.getD i 0) D bs.length)) ∧ Fr No W w' := by
  have HF0 : Hid (Fr No W (W.alloc (.cells (graphV a bs.length cap c m cap') 40))) := Fr.alloc _ _ _
  have HR0 := Lib.hid (RowAt.new W 40 (graphV a bs.length cap c m cap'))
  have HB0 := Lib.hid (hb.no HF0.out)
  have HD0 := Lib.hid (hr.fr HF0.out id)
  have HN := Lib.hid hn
  have n0 : (bs.length : Int) ≤ 256 := by omega
  have HGV : Hid (graphV a bs.length cap c m cap' = #[.slice a bs.length cap, .slice c m cap']) := rfl
  have HTK : Hid (srcAt (fun i => bs.getD i 0) D bs.length = srcAt (fun i => bs.getD i 0) D bs.length) := rfl
  generalize hR : srcAt (fun i => bs.getD i 0) D bs.length = R
  have HRR := Lib.hid hR
  clear HTK hR hb hr hn
  unfold graphV
  rw [HGV.out] at HF0 HR0 HB0 HD0
  go_enter Try.func36, Try.ntmps36
  go_upto_region 1 with (fail)
  generalize World.alloc W _ = W1 at HF0 HR0 HB0 HD0 ⊢
  generalize W.heap.size = x at HR0 ⊢
  go_wp2
  go_loopw [5, 10] (fun vb vi wr => ∃ (i : Nat) (s : Int), vi = .int .i64 i ∧ vb = .int .i64 s ∧ Hid (i ≤ bs.length ∧ s = srcAt (fun i => bs.getD i 0) D i ∧ Fr No W1 wr)) (fun _ vi _ => bs.length - (intOf vi).toNat)
  case atStart => exact ⟨0, -1, rfl, rfl, Nat.zero_le _, rfl, Fr.refl _ _⟩
  case round =>
    obtain ⟨i, s, rfl, rfl, HI⟩ := hrel
    have i0 : (0 : Int) ≤ i := by omega
    by_cases hi : i < bs.length
    · have i1 : (i : Int) < bs.length := by omega
      have HI1 := Lib.hid hi
      have HMS : Hid (bs.length - (intOf (Value.int IntKind.i64 ((i : Int) + 1))).toNat < bs.length - (intOf (Value.int IntKind.i64 (i : Int))).toNat) := by
        show _ < _
        simp only [intOf]
        omega
      have HDr := Lib.hid (HD0.out.fr HI.out.2.2 id)
      have HBr := Lib.hid (HB0.out.no HI.out.2.2)
      have HRr := Lib.hid (HR0.out.fr HI.out.2.2 id)
      have c10 : wr.cell? ⟨gd, i, none⟩ = some (.int .i64 (D i)) := by rw [HDr.out.cell, encPA_get _ hi]
      obtain ⟨bb, off, rfl, _, ci⟩ := HBr.out.get hi
      have c0 : wr.cell? ⟨x, 0, none⟩ = some (.slice (some ⟨bb, off, none⟩) bs.length cap) := HRr.out.cell 0
      have HTN : Hid (srcAt (fun i => bs.getD i 0) D (i + 1) = srcer (fun i => bs.getD i 0) D (srcAt (fun i => bs.getD i 0) D i) i) := rfl
      have HB := Lib.hid HI.out.2.1
      clear hi
      by_cases h1 : D i = -1
      · have HV : Hid (srcAt (fun i => bs.getD i 0) D (i + 1) = s) := by show _ = _; rw [HTN.out, srcer, if_pos h1, HB.out]
        rw [h1] at c10
        clear h1
        go_wp2
        go_roundw
        case rel => exact ⟨i + 1, s, by push_cast; rfl, rfl, HI1.out, HV.out.symm, HI.out.2.2⟩
        case measure => exact HMS.out
      have g1 : (D i == -1) = false := by simpa using h1
      by_cases h2 : s = -1
      · have HV : Hid (srcAt (fun i => bs.getD i 0) D (i + 1) = i) := by show _ = _; rw [HTN.out, srcer, if_neg h1, if_pos (by rw [← HB.out]; exact h2)]
        subst h2
        clear h1
        generalize D i = z at c10 g1
        go_wp2
        go_roundw
        case rel => exact ⟨i + 1, i, by push_cast; rfl, rfl, HI1.out, HV.out.symm, HI.out.2.2⟩
        case measure => exact HMS.out
      have g2 : (s == -1) = false := by simpa using h2
      obtain ⟨hb0, hbn⟩ := src_lt (b := fun i => bs.getD i 0) (D := D) (k := i) (by rw [← HB.out]; exact h2)
      rw [← HB.out] at hb0 hbn
      obtain ⟨q, rfl⟩ : ∃ q : Nat, s = q := ⟨s.toNat, by omega⟩
      have m0 : (0 : Int) ≤ q := by omega
      have m1 : (q : Int) < bs.length := by omega
      have hqn : q < bs.length := by omega
      have c11 : wr.cell? ⟨gd, q, none⟩ = some (.int .i64 (D q)) := by rw [HDr.out.cell, encPA_get _ hqn]
      obtain ⟨bb2, off2, e2, _, cq⟩ := HBr.out.get hqn
      cases e2
      have HNR : Hid (srcAt (fun i => bs.getD i 0) D (i + 1) = if bs.getD i 0 > bs.getD q 0 then (i : Int) else if bs.getD i 0 = bs.getD q 0 ∧ D i < D q then (i : Int) else (q : Int)) := by
        show _ = _
        rw [HTN.out, srcer, ← HB.out, if_neg h1, if_neg h2, Int.toNat_natCast]
      clear h1 h2 hb0 hbn hqn HTN HB
      by_cases h3 : bs.getD i 0 > bs.getD q 0
      · have HV : Hid (srcAt (fun i => bs.getD i 0) D (i + 1) = i) := by show _ = _; rw [HNR.out, if_pos h3]
        have h3' : bs.getD q 0 < bs.getD i 0 := h3
        clear HNR h3
        generalize D i = z at c10 g1
        generalize D q = z2 at c11
        generalize bs.getD i 0 = y1 at ci h3'
        generalize bs.getD q 0 = y2 at cq h3'
        go_wp2
        go_region
        go_wp2
        go_roundw
        case rel => exact ⟨i + 1, i, by push_cast; rfl, rfl, HI1.out, HV.out.symm, HI.out.2.2.trans (Fr.drew _ _)⟩
        case measure => exact HMS.out
      have h3' : ¬ bs.getD q 0 < bs.getD i 0 := h3
      by_cases h4 : bs.getD i 0 = bs.getD q 0
      · have g4 : (bs.getD i 0 == bs.getD q 0) = true := by simpa using h4
        by_cases h5 : D i < D q
        · have HV : Hid (srcAt (fun i => bs.getD i 0) D (i + 1) = i) := by show _ = _; rw [HNR.out, if_neg h3, if_pos ⟨h4, h5⟩]
          have g5 : decide (D i < D q) = true := decide_eq_true h5
          clear HNR h3 h4 h5
          generalize D i = z at c10 g1 g5
          generalize D q = z2 at c11 g5
          generalize bs.getD i 0 = y1 at ci h3' g4
          generalize bs.getD q 0 = y2 at cq h3' g4
          go_wp2
          go_region
          go_wp2
          go_region
          go_wp2
          go_roundw
          case rel => exact ⟨i + 1, i, by push_cast; rfl, rfl, HI1.out, HV.out.symm, HI.out.2.2.trans ((Fr.drew _ _).trans (Fr.drew _ _))⟩
          case measure => exact HMS.out
        · have HV : Hid (srcAt (fun i => bs.getD i 0) D (i + 1) = q) := by show _ = _; rw [HNR.out, if_neg h3, if_neg (fun h => h5 h.2)]
          have g5 : decide (D i < D q) = false := decide_eq_false h5
          clear HNR h3 h4 h5
          generalize D i = z at c10 g1 g5
          generalize D q = z2 at c11 g5
          generalize bs.getD i 0 = y1 at ci h3' g4
          generalize bs.getD q 0 = y2 at cq h3' g4
          go_wp2
          go_region
          go_wp2
          go_region
          go_wp2
          go_roundw
          case rel => exact ⟨i + 1, q, by push_cast; rfl, rfl, HI1.out, HV.out.symm, HI.out.2.2.trans ((Fr.drew _ _).trans (Fr.drew _ _))⟩
          case measure => exact HMS.out
      · have HV : Hid (srcAt (fun i => bs.getD i 0) D (i + 1) = q) := by show _ = _; rw [HNR.out, if_neg h3, if_neg (fun h => h4 h.1)]
        have g4 : (bs.getD i 0 == bs.getD q 0) = false := by simpa using h4
        clear HNR h3 h4
        generalize D i = z at c10 g1
        generalize D q = z2 at c11
        generalize bs.getD i 0 = y1 at ci h3' g4
        generalize bs.getD q 0 = y2 at cq h3' g4
        go_wp2
        go_region
        go_wp2
        go_region
        go_wp2
        go_roundw
        case rel => exact ⟨i + 1, q, by push_cast; rfl, rfl, HI1.out, HV.out.symm, HI.out.2.2.trans ((Fr.drew _ _).trans (Fr.drew _ _))⟩
        case measure => exact HMS.out
    · have hil : i = bs.length := by have := HI.out.1; omega
      have hlt : ¬ (i : Int) < bs.length := by omega
      have HV : Hid (s = R) := by show _ = _; rw [HI.out.2.1, hil]; exact HRR.out
      clear hi hil
      go_wp2
      go_ret
      exact ⟨by rw [HV.out] <;> rfl, HF0.out.trans HI.out.2.2⟩
end Go.Proofs.Yteikipiigbjgbaa
