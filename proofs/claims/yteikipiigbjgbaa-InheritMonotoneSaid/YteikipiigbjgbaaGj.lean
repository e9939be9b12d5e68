/- The insertion sort. -/
import Derived.Test.YteikipiigbjgbaaGi
namespace Go.Proofs.Yteikipiigbjgbaa
open Go.RowKit
set_option linter.unusedVariables false

/-- The comparison by a function value, while block b alone turns. -/
def Cmpr (W : World) (b x n : Nat) (C : Nat → Nat → Int) : Prop := ∀ w, Fr (fun k => k = b) W w → ∀ i j, i < n → j < n → Calls Try.prog 61 #[.int .i64 (i : Int), .int .i64 (j : Int), .pointer (some ⟨x, 0, none⟩)] w fun e w' => e = .returned (.int .i64 (C i j)) ∧ ∃ k, w' = w.drewN k
theorem Cmpr.fr {W W' : World} {b x n : Nat} {C : Nat → Nat → Int} (h : Cmpr W b x n C) (hf : Fr (fun k => k = b) W W') : Cmpr W' b x n C := fun w hw => h w (hf.trans hw)
theorem perm_lt {n : Nat} {xs : List Nat} {A : Array Nat} (hx : ∀ v ∈ xs, v < n) (hp : A.toList.Perm xs) {j : Nat} (hj : j < A.size) : A[j] < n := hx _ (hp.mem_iff.1 (by simp))
theorem perm_size {xs : List Nat} {A : Array Nat} (hp : A.toList.Perm xs) : A.size = xs.length := by simpa using hp.length_eq
def cmpF (x : Nat) : Value := .func (.func 61) #[] #[.pointer (some ⟨x, 0, none⟩)]
set_option maxRecDepth 100000 in
set_option maxHeartbeats 4000000 in
theorem insertion_any {W : World} {b x n : Nat} {xs : List Nat} {C : Nat → Nat → Int} (hS : Srt W b xs) (hx : ∀ v ∈ xs, v < n) (hc : Cmpr W b x n C) (cap lo hi : Nat) (h1 : lo ≤ hi) (h2 : hi ≤ xs.length) (h3 : xs.length ≤ 65536) :
    Calls Try.prog 70 #[.slice (some ⟨b, 0, none⟩) xs.length cap, .int .i64 (lo : Int), .int .i64 (hi : Int), cmpF x] W fun e w' => e = .returned (.tuple #[]) ∧ Srt w' b xs ∧ Fr (fun k => k = b) W w' := by
  have HS := Lib.hid hS
  have HX := Lib.hid hx
  have HC := Lib.hid hc
  have H2 := Lib.hid h2
  have l0 : (0 : Int) ≤ lo := by omega
  have l1 : (lo : Int) ≤ 65536 := by omega
  have l2 : (hi : Int) ≤ 65536 := by omega
  have l3 : (xs.length : Int) ≤ 65536 := by omega
  clear hS hx hc h1 h2 h3
  unfold cmpF
  go_enter Try.func70, Try.ntmps70
  go_wp2
  go_loopw [8] (fun vi wr => ∃ i : Nat, vi = .int .i64 i ∧ (i : Int) ≤ 65537 ∧ Hid (Srt wr b xs ∧ Fr (fun k => k = b) W wr)) (fun vi _ => hi - (intOf vi).toNat)
  case atStart => exact ⟨lo + 1, by push_cast; rfl, by push_cast; omega, HS.out, Fr.refl _ _⟩
  case round =>
    obtain ⟨i, rfl, i1, HI⟩ := hrel
    have i0 : (0 : Int) ≤ i := by omega
    by_cases hlt : (i : Int) < hi
    · have HMS : Hid (hi - (intOf (Value.int IntKind.i64 ((i : Int) + 1))).toNat < hi - (intOf (Value.int IntKind.i64 (i : Int))).toNat) := by
        show _ < _
        simp only [intOf]
        omega
      have HIX : Hid (i < xs.length) := by have := H2.out; show _ < _; omega
      have i2 : (i : Int) ≤ 65536 := by omega
      go_wp2
      go_loopw [9] (fun vj w2 => ∃ j : Nat, vj = .int .i64 j ∧ (j : Int) ≤ i ∧ Hid (Srt w2 b xs ∧ Fr (fun k => k = b) W w2)) (fun vj _ => (intOf vj).toNat)
      case atStart => exact ⟨i, rfl, Int.le_refl _, HI.out⟩
      case round =>
        obtain ⟨j, rfl, j1, HJ⟩ := hrel
        have j0 : (0 : Int) ≤ j := by omega
        by_cases hjl : (lo : Int) < j
        · obtain ⟨k, rfl⟩ : ∃ k : Nat, j = k + 1 := ⟨j - 1, by omega⟩
          have hkl : k + 1 < xs.length := by have := HIX.out; omega
          obtain ⟨A, hp, hr⟩ := HJ.out.1
          have hsz := perm_size hp
          have hk1 : k + 1 < A.size := by omega
          have hk0 : k < A.size := by omega
          have c1 : wr.cell? ⟨b, k + 1, none⟩ = some (.int .i64 ((A[k + 1] : Nat) : Int)) := by rw [hr.cell]; simp [encA, hk1]
          have c2 : wr.cell? ⟨b, k, none⟩ = some (.int .i64 ((A[k] : Nat) : Int)) := by rw [hr.cell]; simp [encA, hk0]
          have f1 : wr.frozen? ⟨b, k + 1, none⟩ = false := hr.frozen _
          have f2 : wr.frozen? ⟨b, k, none⟩ = false := hr.frozen _
          have b1 := perm_lt HX.out hp hk1
          have b2 := perm_lt HX.out hp hk0
          have HSW : Hid (∀ m, Srt (((wr.drewN m).setCell ⟨b, k + 1, none⟩ (.int .i64 ((A[k] : Nat) : Int))).setCell ⟨b, k, none⟩ (.int .i64 ((A[k + 1] : Nat) : Int))) b xs) := fun m => srt_swap (W := wr.drewN m) hp hr hk1 hk0
          have HCC : Hid (∀ m, Calls Try.prog 61 #[.int .i64 ((A[k + 1] : Nat) : Int), .int .i64 ((A[k] : Nat) : Int), .pointer (some ⟨x, 0, none⟩)] (wr.drewN m) fun e w' => e = .returned (.int .i64 (C A[k + 1] A[k])) ∧ ∃ q, w' = (wr.drewN m).drewN q) := fun m => HC.out _ (HJ.out.2.trans (Fr.drewN _ _ _)) _ _ b1 b2
          generalize A[k + 1] = y at c1 HSW HCC
          generalize A[k] = z at c2 HSW HCC
          have k0 : (0 : Int) ≤ k := by omega
          have k1 : (k : Int) + 1 < xs.length := by omega
          have k2 : (k : Int) < xs.length := by omega
          have k3 : (lo : Int) < (k : Int) + 1 := by push_cast at hjl; exact hjl
          have k4 : (k : Int) + 1 ≤ i := by push_cast at j1; exact j1
          clear hp hr hsz hk1 hk0 b1 b2 hkl hjl j1 j0
          have HMJ : Hid ((intOf (Value.int IntKind.i64 (k : Int))).toNat < (intOf (Value.int IntKind.i64 ((k + 1 : Nat) : Int))).toNat) := by
            show _ < _
            simp only [intOf]
            omega
          cases hcy : decide (C y z < 0)
          · go_wp2
            go_quiet ((go_at_call 61; exact Calls.quiet_of (HCC.out _)))
            go_wp2
            exact ⟨⟨i + 1, by push_cast; rfl, by push_cast; omega, Srt.drewN HJ.out.1 _, HJ.out.2.trans (Fr.drewN _ _ _)⟩, HMS.out⟩
          · go_wp2
            go_quiet ((go_at_call 61; exact Calls.quiet_of (HCC.out _)))
            go_wp2
            go_region
            go_wp2
            go_roundw
            case rel => exact ⟨k, rfl, by omega, HSW.out _, HJ.out.2.trans (((Fr.drewN (fun k => k = b) wr _).trans (Fr.set (S := fun k => k = b) _ _ _ _ rfl)).trans (Fr.set (S := fun k => k = b) _ _ _ _ rfl))⟩
            case measure => exact HMJ.out
        · have hjl' : ¬ (lo : Int) < j := hjl
          have g1 : decide (lo < j) = false := by simpa using hjl
          clear hjl hjl'
          go_wp2
          go_quiet (fail)
          go_wp2
          exact ⟨⟨i + 1, by push_cast; rfl, by push_cast; omega, Srt.drewN HJ.out.1 _, HJ.out.2.trans (Fr.drewN _ _ _)⟩, HMS.out⟩
    · clear i1
      go_wp2
      go_end0
      exact ⟨rfl, HI.out⟩
end Go.Proofs.Yteikipiigbjgbaa
