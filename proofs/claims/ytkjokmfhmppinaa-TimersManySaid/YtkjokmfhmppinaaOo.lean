/- Timers: the insertion sort, and the sort of at most 12. -/
import Derived.Test.YtkjokmfhmppinaaOn
namespace Go.Proofs.Ytkjokmfhmppinaa
open Go.RowKit Go.Maps
set_option linter.unusedVariables false

set_option maxRecDepth 100000 in
set_option maxHeartbeats 4000000 in
theorem insertion_ok {W : World} {B g n cap : Nat} {A0 : Nat → Int} {P : Int → Prop} {cf : Int → Int → Int} (O : Ord3 cf) (hc : CmpAt W B g P cf) (hP : ∀ i, i < n → P (A0 i)) {w : World} {A1 : Nat → Int} (hS : SI W g n cap A0 w A1) (lo hi : Nat) (h1 : lo ≤ hi) (h2 : hi ≤ n) (h3 : n ≤ 65536) :
    Calls Try.prog 79 #[.slice (some ⟨g, 0, none⟩) n cap, .int .i64 (lo : Int), .int .i64 (hi : Int), dueF B] w fun e w' => e = .returned (.tuple #[]) ∧ ∃ A, SI W g n cap A0 w' A ∧ Up cf A lo hi ∧ ∀ k, k < lo ∨ hi ≤ k → A k = A1 k := by
  have HS := Lib.hid hS
  have HC := Lib.hid hc
  have HO := Lib.hid O
  have HP : Hid (∀ w A, SI W g n cap A0 w A → ∀ i, i < n → P (A i)) := fun w A h i hi => by obtain ⟨j, hj, e⟩ := h.2.1.to i hi; rw [e]; exact hP j hj
  have H2 := Lib.hid h2
  have H1 := Lib.hid h1
  have l0 : (0 : Int) ≤ lo := by omega
  have l1 : (lo : Int) ≤ 65536 := by omega
  have l2 : (hi : Int) ≤ 65536 := by omega
  have l3 : (n : Int) ≤ 65536 := by omega
  clear hS hc h1 h2 h3 O hP
  unfold dueF
  go_enter Try.func79, Try.ntmps79
  go_wp2
  go_loopw [8] (fun vi wr => ∃ i : Nat, vi = .int .i64 i ∧ (i : Int) ≤ 65537 ∧ Hid (lo < i ∧ ∃ A, SI W g n cap A0 wr A ∧ Up cf A lo i ∧ ∀ k, k < lo ∨ i ≤ k ∨ hi ≤ k → A k = A1 k)) (fun vi _ => hi - (intOf vi).toNat)
  case atStart => exact ⟨lo + 1, by push_cast; rfl, by push_cast; omega, Nat.lt_succ_self _, A1, HS.out, fun p q h1 h2 h3 => by omega, fun k _ => rfl⟩
  case round =>
    obtain ⟨i, rfl, i1, HI⟩ := hrel
    have i0 : (0 : Int) ≤ i := by omega
    by_cases hlt : (i : Int) < hi
    · have HMS : Hid (hi - (intOf (Value.int IntKind.i64 ((i : Int) + 1))).toNat < hi - (intOf (Value.int IntKind.i64 (i : Int))).toNat) := by
        show _ < _
        simp only [intOf]
        omega
      have HIX : Hid (i < n) := by have := H2.out; show _ < _; omega
      have i2 : (i : Int) ≤ 65536 := by omega
      go_wp2
      go_loopw [9] (fun vj w2 => ∃ j : Nat, vj = .int .i64 j ∧ (j : Int) ≤ i ∧ Hid (lo ≤ j ∧ ∃ A, SI W g n cap A0 w2 A ∧ Up1 cf A lo (i + 1) j ∧ ∀ k, k < lo ∨ i + 1 ≤ k ∨ hi ≤ k → A k = A1 k)) (fun vj _ => (intOf vj).toNat)
      case atStart => exact ⟨i, rfl, Int.le_refl _, Nat.le_of_lt HI.out.1, by obtain ⟨A, a1, a2, a3⟩ := HI.out.2; exact ⟨A, a1, a2.one, fun k hk => a3 k (by omega)⟩⟩
      case round =>
        obtain ⟨j, rfl, j1, HJ⟩ := hrel
        have j0 : (0 : Int) ≤ j := by omega
        by_cases hjl : (lo : Int) < j
        · obtain ⟨k, rfl⟩ : ∃ k : Nat, j = k + 1 := ⟨j - 1, by omega⟩
          have hkl : k + 1 < n := by have := HIX.out; omega
          obtain ⟨A, a1, a2, a3⟩ := HJ.out.2
          have HA1 := Lib.hid a1
          have HA2 := Lib.hid a2
          have HA3 := Lib.hid a3
          have c1 : wr.cell? ⟨g, k + 1, none⟩ = some (.int .i64 (A (k + 1))) := a1.1.cell hkl
          have c2 : wr.cell? ⟨g, k, none⟩ = some (.int .i64 (A k)) := a1.1.cell (by omega)
          have HKL := Lib.hid hkl
          have HCC := Lib.hid (fun (w : World) (f : Fr No wr w) => HC.out w (a1.2.2.trans f.any) (A (k + 1)) (A k) (HP.out _ _ a1 _ hkl) (HP.out _ _ a1 _ (by omega)))
          have k0 : (0 : Int) ≤ k := by omega
          have k1 : (k : Int) + 1 < n := by omega
          have k2 : (k : Int) < n := by omega
          have k3 : (lo : Int) < (k : Int) + 1 := by push_cast at hjl; exact hjl
          have k4 : (k : Int) + 1 ≤ i := by push_cast at j1; exact j1
          clear a1 a2 a3 hkl hjl j1 j0
          have HMJ : Hid ((intOf (Value.int IntKind.i64 (k : Int))).toNat < (intOf (Value.int IntKind.i64 ((k + 1 : Nat) : Int))).toNat) := by
            show _ < _
            simp only [intOf]
            omega
          have HY : Hid (∀ w, Fr No wr w → w.cell? ⟨g, k + 1, none⟩ = some (.int .i64 (A (k + 1))) ∧ w.cell? ⟨g, k, none⟩ = some (.int .i64 (A k)) ∧ w.frozen? ⟨g, k + 1, none⟩ = false ∧ w.frozen? ⟨g, k, none⟩ = false) := fun w f => ⟨(HA1.out.1.fr f id).cell HKL.out, (HA1.out.1.fr f id).cell (by have := HKL.out; omega), (HA1.out.1.fr f id).frozen _, (HA1.out.1.fr f id).frozen _⟩
          have HLT : Hid (∀ w, Fr No wr w → ∀ A', A' = A → SI W g n cap A0 w A') := fun w f A' e => by subst e; exact HA1.out.no f
          have HSW := Lib.hid (fun (w : World) (f : Fr No wr w) => (HA1.out.no f).swap HKL.out (show k < n from by have := HKL.out; omega))
          have HUP := Lib.hid (fun (hl : cf (A (k + 1)) (A k) < 0) => HA2.out.step HO.out (by omega) (by omega) hl)
          have HST := Lib.hid (fun (hl : ¬ cf (A (k + 1)) (A k) < 0) => HA2.out.stop HO.out (by omega) hl)
          have HNE : Hid (∀ m, m < lo ∨ i + 1 ≤ m ∨ hi ≤ m → sw A (k + 1) k m = A1 m) := fun m hm => by
            unfold sw
            rw [if_neg (by omega), if_neg (by omega)]
            exact HA3.out m hm
          generalize hy : A (k + 1) = y at c1 HCC HY HSW HUP HST
          generalize hz : A k = z at c2 HCC HY HSW HUP HST
          clear hy hz
          go_upto_region 4 with (fail)
          rw [show ((k + 1 : Nat) : Int) = (k : Int) + 1 from by push_cast; rfl]
          have k5 : (k : Int) + 1 - 1 = k := by omega
          have k6 : (0 : Int) ≤ (k : Int) + 1 := by omega
          have k7 : (((k : Int) + 1).toNat) = k + 1 := by omega
          have k8 : IntKind.i64.wrap ((k : Int) + 1 - 1) = k := by rw [k5]; exact IntWalk.i64_in _ (by omega)
          have k9 : IntKind.i64.wrap (k : Int) = k := IntWalk.i64_in _ (by omega)
          have k10 : wrap64 ((k : Int) + 1 - 1) = k := by rw [k5]; exact IntWalk.wrap64_in _ (by omega)
          have k11 : decide ((k : Int) < n) = true := by simpa using k2
          have k12 : decide ((k : Int) < 0) = false := by simp
          have k13 : k < n := by omega
          have k14 : k + 1 < n := by omega
          by_cases hl : cf y z < 0
          · have hd : decide (cf y z < 0) = true := by simpa using hl
            have HU := Lib.hid (HUP.out hl)
            clear hl HUP HST
            go_region_held3 (fun w' => w'.cell? ⟨g, k + 1, none⟩ = some (.int .i64 y) ∧ w'.cell? ⟨g, k, none⟩ = some (.int .i64 z))
              (first | (exact ⟨c1, c2⟩) | (exact ⟨(HY.out _ F2.out).1, (HY.out _ F2.out).2.1⟩))
              (first
                | (go_at_call 60; refine (HCC.out _ (Fr.drew No _)).mono ?_; rintro e W2 ⟨rfl, f2⟩; have F2 : Hid (Fr No wr W2) := (Fr.drew No _).trans f2; clear f2))
            obtain ⟨d1, d2, d3, d4⟩ := HY.out _ F2.out
            clear c1 c2
            go_wp2
            go_region
            go_wp2
            have hlk : lo ≤ k := by omega
            have hki : (k : Int) ≤ i := by omega
            have hsi := (HSW.out W2 F2.out).no (Fr.drew No ((W2.setCell ⟨g, k + 1, none⟩ (.int .i64 z)).setCell ⟨g, k, none⟩ (.int .i64 y)))
            go_roundw
            case rel => exact ⟨k, rfl, hki, hlk, sw A (k + 1) k, hsi, HU.out, HNE.out⟩
            case measure => exact HMJ.out
          · have hd : decide (cf y z < 0) = false := by simpa using hl
            have HU := Lib.hid (HST.out (by omega))
            have hn : 0 ≤ cf y z := by omega
            clear hl HUP HST
            go_region_held3 (fun w' => w'.cell? ⟨g, k + 1, none⟩ = some (.int .i64 y) ∧ w'.cell? ⟨g, k, none⟩ = some (.int .i64 z))
              (first | (exact ⟨c1, c2⟩) | (exact ⟨(HY.out _ F2.out).1, (HY.out _ F2.out).2.1⟩))
              (first
                | (go_at_call 60; refine (HCC.out _ (Fr.drew No _)).mono ?_; rintro e W2 ⟨rfl, f2⟩; have F2 : Hid (Fr No wr W2) := (Fr.drew No _).trans f2; clear f2))
            obtain ⟨d1, d2, d3, d4⟩ := HY.out _ F2.out
            clear c1 c2
            have HF := Lib.hid (HLT.out _ F2.out)
            go_wp2
            exact ⟨⟨i + 1, by push_cast; rfl, by push_cast; omega, by have := HI.out.1; omega, A, HF.out A rfl, HU.out, HA3.out⟩, HMS.out⟩
        · have hjl' : ¬ (lo : Int) < j := hjl
          have g1 : decide (lo < j) = false := by simpa using hjl
          have he : j = lo := by have := HJ.out.1; omega
          have HE := Lib.hid he
          clear hjl hjl' he
          go_wp2
          go_quiet (fail)
          go_wp2
          refine ⟨⟨i + 1, by push_cast; rfl, by push_cast; omega, by have := HI.out.1; omega, ?_⟩, HMS.out⟩
          obtain ⟨A, a1, a2, a3⟩ := HJ.out.2
          rw [HE.out] at a2
          exact ⟨A, a1.no (Fr.drewN _ _ _), a2.low, a3⟩
    · have hi' : hi ≤ i := by omega
      have HI' := Lib.hid hi'
      clear i1 hi'
      go_wp2
      go_end0
      obtain ⟨h1, A, a1, a2, a3⟩ := HI.out
      refine ⟨rfl, A, a1, fun p q q1 q2 q3 => a2 p q q1 q2 (by have := HI'.out; omega), fun k hk => a3 k (by omega)⟩
end Go.Proofs.Ytkjokmfhmppinaa
