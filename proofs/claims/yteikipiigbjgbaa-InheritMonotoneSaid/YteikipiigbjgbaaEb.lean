/- The stable sort of many: symMerge. -/
import Derived.Test.YteikipiigbjgbaaEr
namespace Go.Proofs.Yteikipiigbjgbaa
open Go.RowKit
set_option linter.unusedVariables false

/-- symMerge, on ranges of at most this length. -/
def SymOk (N : Nat) : Prop := ∀ (W : World) (b x n : Nat) (xs : List Nat) (C : Nat → Nat → Int) (cap p m q : Nat), Srt W b xs → (∀ v ∈ xs, v < n) → Cmpr W b x n C → p < m → m < q → q ≤ xs.length → xs.length ≤ 65536 → q ≤ p + N →
    Calls Try.prog 71 #[.slice (some ⟨b, 0, none⟩) xs.length cap, .int .i64 (p : Int), .int .i64 (m : Int), .int .i64 (q : Int), cmpF x] W fun e w' => e = .returned (.tuple #[]) ∧ Srt w' b xs ∧ Fr (fun k => k = b) W w'
/-- The comparison, of two places of the row. -/
theorem cmp_at {W wr : World} {b x n : Nat} {xs : List Nat} {C : Nat → Nat → Int} (hx : ∀ v ∈ xs, v < n) (hc : Cmpr W b x n C) {A : Array Nat} (hp : A.toList.Perm xs) (hf : Fr (fun k => k = b) W wr) {i j : Nat} (hi : i < A.size) (hj : j < A.size) (m : Nat) :
    Calls Try.prog 61 #[.int .i64 ((A[i] : Nat) : Int), .int .i64 ((A[j] : Nat) : Int), .pointer (some ⟨x, 0, none⟩)] (wr.drewN m) fun e w' => e = .returned (.int .i64 (C A[i] A[j])) ∧ ∃ q, w' = (wr.drewN m).drewN q :=
  hc _ (hf.trans (Fr.drewN _ _ _)) _ _ (perm_lt hx hp hi) (perm_lt hx hp hj)
set_option maxRecDepth 100000 in
set_option maxHeartbeats 8000000 in
theorem symmerge_one {W : World} {b x n : Nat} {xs : List Nat} {C : Nat → Nat → Int} (hS : Srt W b xs) (hx : ∀ v ∈ xs, v < n) (hc : Cmpr W b x n C) (cap p q : Nat) (h2 : p + 1 < q) (h3 : q ≤ xs.length) (h4 : xs.length ≤ 65536) :
    Calls Try.prog 71 #[.slice (some ⟨b, 0, none⟩) xs.length cap, .int .i64 (p : Int), .int .i64 ((p : Int) + 1), .int .i64 (q : Int), cmpF x] W fun e w' => e = .returned (.tuple #[]) ∧ Srt w' b xs ∧ Fr (fun k => k = b) W w' := by
  have HS := Lib.hid hS
  have HX := Lib.hid hx
  have HC := Lib.hid hc
  have p0 : (0 : Int) ≤ p := by omega
  have l1 : (p : Int) + 1 < q := by omega
  have l3 : (q : Int) ≤ xs.length := by omega
  have l4 : (xs.length : Int) ≤ 65536 := by omega
  have one : ((p : Int) + 1 - p == 1) = true := by rw [beq_iff_eq]; omega
  clear hS hx hc h2 h3 h4
  unfold cmpF
  go_enter Try.func71, Try.ntmps71
  go_wp2
  go_loopw [10, 11] (fun vi vj wr => ∃ i j : Nat, vi = .int .i64 i ∧ vj = .int .i64 j ∧ (p : Int) + 1 ≤ i ∧ (i : Int) ≤ j ∧ (j : Int) ≤ q ∧ Hid (Srt wr b xs ∧ Fr (fun k => k = b) W wr)) (fun vi vj _ => (intOf vj).toNat - (intOf vi).toNat)
  case atStart => exact ⟨p + 1, q, by push_cast; rfl, rfl, by push_cast; omega, by push_cast; omega, Int.le_refl _, HS.out, Fr.refl _ _⟩
  case round =>
    obtain ⟨i, j, rfl, rfl, i1, ij, j1, HI⟩ := hrel
    have i0 : (0 : Int) ≤ i := by omega
    have j0 : (0 : Int) ≤ j := by omega
    by_cases hlt : (i : Int) < j
    · obtain ⟨h, hh⟩ : ∃ h : Nat, ((i : Int) + j) / 2 = h := ⟨(i + j) / 2, by omega⟩
      have hi1 : i ≤ h := by omega
      have hj1 : h < j := by omega
      have h0 : (0 : Int) ≤ h := by omega
      have hl1 : (h : Int) < xs.length := by omega
      have pl1 : (p : Int) < xs.length := by omega
      obtain ⟨A, hp, hr⟩ := HI.out.1
      have hsz := perm_size hp
      have hA : h < A.size := by omega
      have pA : p < A.size := by omega
      have c1 : wr.cell? ⟨b, h, none⟩ = some (.int .i64 ((A[h] : Nat) : Int)) := by rw [hr.cell]; simp [encA, hA]
      have c2 : wr.cell? ⟨b, p, none⟩ = some (.int .i64 ((A[p] : Nat) : Int)) := by rw [hr.cell]; simp [encA, pA]
      have HCC := Lib.hid (cmp_at HX.out HC.out hp HI.out.2 hA pA)
      generalize A[h] = y at c1 HCC
      generalize A[p] = z at c2 HCC
      have HMS1 : Hid ((intOf (Value.int IntKind.i64 (j : Int))).toNat - (intOf (Value.int IntKind.i64 ((h : Int) + 1))).toNat < (intOf (Value.int IntKind.i64 (j : Int))).toNat - (intOf (Value.int IntKind.i64 (i : Int))).toNat) := by
        show _ < _
        simp only [intOf]
        omega
      have HMS2 : Hid ((intOf (Value.int IntKind.i64 (h : Int))).toNat - (intOf (Value.int IntKind.i64 (i : Int))).toNat < (intOf (Value.int IntKind.i64 (j : Int))).toNat - (intOf (Value.int IntKind.i64 (i : Int))).toNat) := by
        show _ < _
        simp only [intOf]
        omega
      have HB : Hid (i ≤ h ∧ h < j) := ⟨hi1, hj1⟩
      clear hp hr hsz hA pA hi1 hj1
      cases hcy : decide (C y z < 0)
      · go_upto_region 5 with (fail)
        go_quiet ((go_at_call 61; exact Calls.quiet_of (HCC.out _)))
        go_wp2
        go_roundw
        case rel => exact ⟨i, h, rfl, rfl, i1, by have := HB.out; omega, by have := HB.out; omega, Srt.drewN HI.out.1 _, HI.out.2.trans (Fr.drewN _ _ _)⟩
        case measure => exact HMS2.out
      · go_upto_region 5 with (fail)
        go_quiet ((go_at_call 61; exact Calls.quiet_of (HCC.out _)))
        go_wp2
        go_roundw
        case rel => exact ⟨h + 1, j, by push_cast; rfl, rfl, by have := HB.out; push_cast; omega, by have := HB.out; push_cast; omega, j1, Srt.drewN HI.out.1 _, HI.out.2.trans (Fr.drewN _ _ _)⟩
        case measure => exact HMS1.out
    · have iq : (i : Int) ≤ q := by omega
      go_wp2
      go_loopw [13] (fun vk w2 => ∃ k : Nat, vk = .int .i64 k ∧ (k : Int) ≤ i ∧ Hid (Srt w2 b xs ∧ Fr (fun k => k = b) W w2)) (fun vk _ => i - (intOf vk).toNat)
      case atStart => exact ⟨p, rfl, by omega, HI.out⟩
      case round =>
        obtain ⟨k, rfl, k1, HK⟩ := hrel
        have k0 : (0 : Int) ≤ k := by omega
        by_cases hlt2 : (k : Int) < (i : Int) - 1
        · have HMS : Hid (i - (intOf (Value.int IntKind.i64 ((k : Int) + 1))).toNat < i - (intOf (Value.int IntKind.i64 (k : Int))).toNat) := by
            show _ < _
            simp only [intOf]
            omega
          obtain ⟨A, hp, hr⟩ := HK.out.1
          have hsz := perm_size hp
          have hp1 : k < A.size := by omega
          have hq1 : k + 1 < A.size := by omega
          have c1 : wr.cell? ⟨b, k, none⟩ = some (.int .i64 ((A[k] : Nat) : Int)) := by rw [hr.cell]; simp [encA, hp1]
          have c2 : wr.cell? ⟨b, k + 1, none⟩ = some (.int .i64 ((A[k + 1] : Nat) : Int)) := by rw [hr.cell]; simp [encA, hq1]
          have f1 : wr.frozen? ⟨b, k, none⟩ = false := hr.frozen _
          have f2 : wr.frozen? ⟨b, k + 1, none⟩ = false := hr.frozen _
          have HSW : Hid (∀ m, Srt (((wr.drewN m).setCell ⟨b, k, none⟩ (.int .i64 ((A[k + 1] : Nat) : Int))).setCell ⟨b, k + 1, none⟩ (.int .i64 ((A[k] : Nat) : Int))) b xs) := fun m => srt_swap (W := wr.drewN m) hp hr hp1 hq1
          generalize A[k] = y at c1 HSW
          generalize A[k + 1] = z at c2 HSW
          have k2 : (k : Int) < xs.length := by omega
          have k3 : (k : Int) + 1 < xs.length := by omega
          have w2 : ((k : Int) + 1).toNat = k + 1 := by omega
          clear hp hr hsz hp1 hq1
          go_wp2
          go_region
          go_wp2
          go_roundw
          case rel => exact ⟨k + 1, by push_cast; rfl, by push_cast; omega, HSW.out 1, HK.out.2.trans (((Fr.drew (fun k => k = b) wr).trans (Fr.set (S := fun k => k = b) _ _ _ _ rfl)).trans (Fr.set (S := fun k => k = b) _ _ _ _ rfl))⟩
          case measure => exact HMS.out
        · clear k1
          go_wp2
          refine bodyPost_ret (results_none rfl _ _ _) rfl ?_
          exact ⟨rfl, HK.out⟩
end Go.Proofs.Yteikipiigbjgbaa
