/- The stable sort of many: symMerge, the last alone. -/
import Derived.Test.YteikipiigbjgbaaEb
namespace Go.Proofs.Yteikipiigbjgbaa
open Go.RowKit
set_option linter.unusedVariables false

set_option maxRecDepth 100000 in
set_option maxHeartbeats 8000000 in
theorem symmerge_last {W : World} {b x n : Nat} {xs : List Nat} {C : Nat → Nat → Int} (hS : Srt W b xs) (hx : ∀ v ∈ xs, v < n) (hc : Cmpr W b x n C) (cap p m : Nat) (h2 : p + 1 < m) (h3 : m + 1 ≤ xs.length) (h4 : xs.length ≤ 65536) :
    Calls Try.prog 71 #[.slice (some ⟨b, 0, none⟩) xs.length cap, .int .i64 (p : Int), .int .i64 (m : Int), .int .i64 ((m : Int) + 1), cmpF x] W fun e w' => e = .returned (.tuple #[]) ∧ Srt w' b xs ∧ Fr (fun k => k = b) W w' := by
  have HS := Lib.hid hS
  have HX := Lib.hid hx
  have HC := Lib.hid hc
  have p0 : (0 : Int) ≤ p := by omega
  have m0 : (0 : Int) ≤ m := by omega
  have l1 : (p : Int) + 1 < m := by omega
  have l3 : (m : Int) + 1 ≤ xs.length := by omega
  have l4 : (xs.length : Int) ≤ 65536 := by omega
  have one : ((m : Int) - p == 1) = false := by simp; omega
  have one2 : ((m : Int) + 1 - m == 1) = true := by rw [beq_iff_eq]; omega
  clear hS hx hc h2 h3 h4
  unfold cmpF
  go_enter Try.func71, Try.ntmps71
  go_wp2
  go_loopw [14, 15] (fun vi vj wr => ∃ i j : Nat, vi = .int .i64 i ∧ vj = .int .i64 j ∧ (i : Int) ≤ j ∧ (j : Int) ≤ m ∧ Hid (Srt wr b xs ∧ Fr (fun k => k = b) W wr)) (fun vi vj _ => (intOf vj).toNat - (intOf vi).toNat)
  case atStart => exact ⟨p, m, rfl, rfl, by omega, Int.le_refl _, HS.out, Fr.refl _ _⟩
  case round =>
    obtain ⟨i, j, rfl, rfl, ij, j1, HI⟩ := hrel
    have i0 : (0 : Int) ≤ i := by omega
    have j0 : (0 : Int) ≤ j := by omega
    by_cases hlt : (i : Int) < j
    · obtain ⟨h, hh⟩ : ∃ h : Nat, ((i : Int) + j) / 2 = h := ⟨(i + j) / 2, by omega⟩
      have hi1 : i ≤ h := by omega
      have hj1 : h < j := by omega
      have h0 : (0 : Int) ≤ h := by omega
      have hl1 : (h : Int) < xs.length := by omega
      have pl1 : (m : Int) < xs.length := by omega
      obtain ⟨A, hp, hr⟩ := HI.out.1
      have hsz := perm_size hp
      have hA : h < A.size := by omega
      have pA : m < A.size := by omega
      have c1 : wr.cell? ⟨b, h, none⟩ = some (.int .i64 ((A[h] : Nat) : Int)) := by rw [hr.cell]; simp [encA, hA]
      have c2 : wr.cell? ⟨b, m, none⟩ = some (.int .i64 ((A[m] : Nat) : Int)) := by rw [hr.cell]; simp [encA, pA]
      have HCC := Lib.hid (cmp_at HX.out HC.out hp HI.out.2 pA hA)
      generalize A[h] = y at c1 HCC
      generalize A[m] = z at c2 HCC
      have HMS1 : Hid ((intOf (Value.int IntKind.i64 (j : Int))).toNat - (intOf (Value.int IntKind.i64 ((h : Int) + 1))).toNat < (intOf (Value.int IntKind.i64 (j : Int))).toNat - (intOf (Value.int IntKind.i64 (i : Int))).toNat) := by
        show _ < _
        simp only [intOf]
        omega
      have HMS2 : Hid ((intOf (Value.int IntKind.i64 (h : Int))).toNat - (intOf (Value.int IntKind.i64 (i : Int))).toNat < (intOf (Value.int IntKind.i64 (j : Int))).toNat - (intOf (Value.int IntKind.i64 (i : Int))).toNat) := by
        show _ < _
        simp only [intOf]
        omega
      have HB : Hid (i ≤ h ∧ h < j) := ⟨hi1, hj1⟩
      clear hp hr hsz hA pA hi1 hj1
      cases hcy : decide (C z y < 0)
      · go_upto_region 11 with (fail)
        go_quiet ((go_at_call 61; exact Calls.quiet_of (HCC.out _)))
        go_wp2
        go_roundw
        case rel => exact ⟨h + 1, j, by push_cast; rfl, rfl, by have := HB.out; push_cast; omega, j1, Srt.drewN HI.out.1 _, HI.out.2.trans (Fr.drewN _ _ _)⟩
        case measure => exact HMS1.out
      · go_upto_region 11 with (fail)
        go_quiet ((go_at_call 61; exact Calls.quiet_of (HCC.out _)))
        go_wp2
        go_roundw
        case rel => exact ⟨i, h, rfl, rfl, by have := HB.out; omega, by have := HB.out; omega, Srt.drewN HI.out.1 _, HI.out.2.trans (Fr.drewN _ _ _)⟩
        case measure => exact HMS2.out
    · have iq : (i : Int) ≤ m := by omega
      go_wp2
      go_loopw [17] (fun vk w2 => ∃ k : Nat, vk = .int .i64 k ∧ (k : Int) ≤ m ∧ Hid (Srt w2 b xs ∧ Fr (fun k => k = b) W w2)) (fun vk _ => (intOf vk).toNat)
      case atStart => exact ⟨m, rfl, Int.le_refl _, HI.out⟩
      case round =>
        obtain ⟨k, rfl, k1, HK⟩ := hrel
        have k0 : (0 : Int) ≤ k := by omega
        by_cases hlt2 : (i : Int) < k
        · obtain ⟨u, rfl⟩ : ∃ u : Nat, k = u + 1 := ⟨k - 1, by omega⟩
          have HMS : Hid ((intOf (Value.int IntKind.i64 (u : Int))).toNat < (intOf (Value.int IntKind.i64 ((u + 1 : Nat) : Int))).toNat) := by
            show _ < _
            simp only [intOf]
            omega
          obtain ⟨A, hp, hr⟩ := HK.out.1
          have hsz := perm_size hp
          have hp1 : u + 1 < A.size := by omega
          have hq1 : u < A.size := by omega
          have c1 : wr.cell? ⟨b, u + 1, none⟩ = some (.int .i64 ((A[u + 1] : Nat) : Int)) := by rw [hr.cell]; simp [encA, hp1]
          have c2 : wr.cell? ⟨b, u, none⟩ = some (.int .i64 ((A[u] : Nat) : Int)) := by rw [hr.cell]; simp [encA, hq1]
          have f1 : wr.frozen? ⟨b, u + 1, none⟩ = false := hr.frozen _
          have f2 : wr.frozen? ⟨b, u, none⟩ = false := hr.frozen _
          have HSW : Hid (∀ m, Srt (((wr.drewN m).setCell ⟨b, u + 1, none⟩ (.int .i64 ((A[u] : Nat) : Int))).setCell ⟨b, u, none⟩ (.int .i64 ((A[u + 1] : Nat) : Int))) b xs) := fun m => srt_swap (W := wr.drewN m) hp hr hp1 hq1
          generalize A[u + 1] = y at c1 HSW
          generalize A[u] = z at c2 HSW
          have u0 : (0 : Int) ≤ u := by omega
          have k2 : (u : Int) < xs.length := by omega
          have k3 : (u : Int) + 1 < xs.length := by omega
          have k4 : (i : Int) < (u : Int) + 1 := by push_cast at hlt2; exact hlt2
          have k5 : (u : Int) + 1 ≤ m := by push_cast at k1; exact k1
          have k6 : (u : Int) ≤ m := by omega
          clear hp hr hsz hp1 hq1 hlt2 k1 k0
          go_wp2
          go_region
          go_wp2
          go_roundw
          case rel => exact ⟨u, rfl, k6, HSW.out 1, HK.out.2.trans (((Fr.drew (fun k => k = b) wr).trans (Fr.set (S := fun k => k = b) _ _ _ _ rfl)).trans (Fr.set (S := fun k => k = b) _ _ _ _ rfl))⟩
          case measure => exact HMS.out
        · clear k1
          go_wp2
          refine bodyPost_ret (results_none rfl _ _ _) rfl ?_
          exact ⟨rfl, HK.out⟩
end Go.Proofs.Yteikipiigbjgbaa
