/- The stable sort of many: swapRange, rotate. -/
import Derived.Test.YteikipiigbjgbaaGk
namespace Go.Proofs.Yteikipiigbjgbaa
open Go.RowKit
set_option linter.unusedVariables false

set_option maxRecDepth 100000 in
set_option maxHeartbeats 4000000 in
theorem swaprange_any {W : World} {b x : Nat} {xs : List Nat} (hS : Srt W b xs) (cap p q m : Nat) (h1 : p + m ≤ q) (h2 : q + m ≤ xs.length) (h3 : xs.length ≤ 65536) :
    Calls Try.prog 73 #[.slice (some ⟨b, 0, none⟩) xs.length cap, .int .i64 (p : Int), .int .i64 (q : Int), .int .i64 (m : Int), cmpF x] W fun e w' => e = .returned (.tuple #[]) ∧ Srt w' b xs ∧ Fr (fun k => k = b) W w' := by
  have HS := Lib.hid hS
  have p0 : (0 : Int) ≤ p := by omega
  have q0 : (0 : Int) ≤ q := by omega
  have m0 : (0 : Int) ≤ m := by omega
  have l1 : (p : Int) + m ≤ q := by omega
  have l2 : (q : Int) + m ≤ xs.length := by omega
  have l3 : (xs.length : Int) ≤ 65536 := by omega
  clear hS h1 h2 h3
  unfold cmpF
  go_enter Try.func73, Try.ntmps73
  go_wp2
  go_loopw [10] (fun vi wr => ∃ i : Nat, vi = .int .i64 i ∧ (i : Int) ≤ m ∧ Hid (Srt wr b xs ∧ Fr (fun k => k = b) W wr)) (fun vi _ => m - (intOf vi).toNat)
  case atStart => exact ⟨0, rfl, by omega, HS.out, Fr.refl _ _⟩
  case round =>
    obtain ⟨i, rfl, i1, HI⟩ := hrel
    have i0 : (0 : Int) ≤ i := by omega
    by_cases hlt : (i : Int) < m
    · have HMS : Hid (m - (intOf (Value.int IntKind.i64 ((i : Int) + 1))).toNat < m - (intOf (Value.int IntKind.i64 (i : Int))).toNat) := by
        show _ < _
        simp only [intOf]
        omega
      obtain ⟨A, hp, hr⟩ := HI.out.1
      have hsz := perm_size hp
      have hp1 : p + i < A.size := by omega
      have hq1 : q + i < A.size := by omega
      have c1 : wr.cell? ⟨b, p + i, none⟩ = some (.int .i64 ((A[p + i] : Nat) : Int)) := by rw [hr.cell]; simp [encA, hp1]
      have c2 : wr.cell? ⟨b, q + i, none⟩ = some (.int .i64 ((A[q + i] : Nat) : Int)) := by rw [hr.cell]; simp [encA, hq1]
      have f1 : wr.frozen? ⟨b, p + i, none⟩ = false := hr.frozen _
      have f2 : wr.frozen? ⟨b, q + i, none⟩ = false := hr.frozen _
      have HSW : Hid (∀ k, Srt (((wr.drewN k).setCell ⟨b, p + i, none⟩ (.int .i64 ((A[q + i] : Nat) : Int))).setCell ⟨b, q + i, none⟩ (.int .i64 ((A[p + i] : Nat) : Int))) b xs) := fun k => srt_swap (W := wr.drewN k) hp hr hp1 hq1
      generalize A[p + i] = y at c1 HSW
      generalize A[q + i] = z at c2 HSW
      have k1 : (p : Int) + i < xs.length := by omega
      have k2 : (q : Int) + i < xs.length := by omega
      have k3 : ¬ (p + i = q + i) := by omega
      have k4 : ¬ (q + i = p + i) := by omega
      have k5 : ¬ (p = q) := by omega
      have k6 : ¬ (q = p) := by omega
      have w1 : ((p : Int) + i).toNat = p + i := by omega
      have w2 : ((q : Int) + i).toNat = q + i := by omega
      clear hp hr hsz hp1 hq1
      go_wp2
      go_region
      go_wp2
      go_roundw
      case rel => exact ⟨i + 1, by push_cast; rfl, by push_cast; omega, HSW.out 1, HI.out.2.trans (((Fr.drew (fun k => k = b) wr).trans (Fr.set (S := fun k => k = b) _ _ _ _ rfl)).trans (Fr.set (S := fun k => k = b) _ _ _ _ rfl))⟩
      case measure => exact HMS.out
    · clear i1
      go_wp2
      go_end0
      exact ⟨rfl, HI.out⟩
end Go.Proofs.Yteikipiigbjgbaa
