/- The stable sort of many: rotate. -/
import Derived.Test.YteikipiigbjgbaaEa
namespace Go.Proofs.Yteikipiigbjgbaa
open Go.RowKit
set_option linter.unusedVariables false

set_option maxRecDepth 100000 in
set_option maxHeartbeats 4000000 in
theorem rotate_any {W : World} {b x : Nat} {xs : List Nat} (hS : Srt W b xs) (cap p m q : Nat) (h1 : p < m) (h2 : m < q) (h3 : q ≤ xs.length) (h4 : xs.length ≤ 65536) :
    Calls Try.prog 72 #[.slice (some ⟨b, 0, none⟩) xs.length cap, .int .i64 (p : Int), .int .i64 (m : Int), .int .i64 (q : Int), cmpF x] W fun e w' => e = .returned (.tuple #[]) ∧ Srt w' b xs ∧ Fr (fun k => k = b) W w' := by
  have HS := Lib.hid hS
  have p0 : (0 : Int) ≤ p := by omega
  have m0 : (0 : Int) ≤ m := by omega
  have l1 : (p : Int) < m := by omega
  have l2 : (m : Int) < q := by omega
  have l3 : (q : Int) ≤ xs.length := by omega
  have l4 : (xs.length : Int) ≤ 65536 := by omega
  have HSR : Hid (∀ (w : World) (u v n : Nat), Srt w b xs → u + n ≤ v → v + n ≤ xs.length → Calls Try.prog 73 #[.slice (some ⟨b, 0, none⟩) xs.length cap, .int .i64 (u : Int), .int .i64 (v : Int), .int .i64 (n : Int), cmpF x] w fun e w' => e = .returned (.tuple #[]) ∧ Srt w' b xs ∧ Fr (fun k => k = b) w w') := fun w u v n h5 h6 h7 => swaprange_any h5 cap u v n h6 h7 h4
  have H1 : Hid (p < m ∧ m < q ∧ q ≤ xs.length) := ⟨h1, h2, h3⟩
  clear hS h1 h2 h3 h4
  unfold cmpF at HSR ⊢
  go_enter Try.func72, Try.ntmps72
  go_wp2
  go_loopw [10, 11] (fun vi vj wr => ∃ i j : Nat, vi = .int .i64 i ∧ vj = .int .i64 j ∧ 1 ≤ (i : Int) ∧ 1 ≤ (j : Int) ∧ (i : Int) ≤ m ∧ (m : Int) + j ≤ xs.length ∧ Hid (Srt wr b xs ∧ Fr (fun k => k = b) W wr)) (fun vi vj _ => (intOf vi).toNat + (intOf vj).toNat)
  case atStart => exact ⟨m - p, q - m, by congr 1; have := H1.out; omega, by congr 1; have := H1.out; omega, by have := H1.out; omega, by have := H1.out; omega, by have := H1.out; omega, by have := H1.out; omega, HS.out, Fr.refl _ _⟩
  case round =>
    obtain ⟨i, j, rfl, rfl, i1, j1, i2, j2, HI⟩ := hrel
    obtain ⟨u, hu⟩ : ∃ u : Nat, m = u + i := ⟨m - i, by omega⟩
    by_cases hij : i = j
    · subst hij
      have HC := Lib.hid (HSR.out wr u m i HI.out.1 (by omega) (by omega))
      have e1 : ((u : Nat) : Int) = (m : Int) - i := by omega
      rw [e1] at HC
      clear e1
      have HU := Lib.hid hu
      clear hu
      go_wp2_with (go_at_call 73; refine HC.out.mono ?_; rintro e w2 ⟨rfl, hs2, hf2⟩; have HS2 := Lib.hid hs2; have HF2 := Lib.hid hf2; clear hs2 hf2)
      go_end0
      exact ⟨rfl, HS2.out, HI.out.2.trans HF2.out⟩
    · have g1 : ((i : Int) != j) = true := by simp; omega
      have g1' : (i != j) = true := by simpa using hij
      by_cases hgt : j < i
      · have HC := Lib.hid (HSR.out wr u m j HI.out.1 (by omega) (by omega))
        have e1 : ((u : Nat) : Int) = (m : Int) - i := by omega
        rw [e1] at HC
        obtain ⟨k, hk⟩ : ∃ k : Nat, i = k + j := ⟨i - j, by omega⟩
        have HK := Lib.hid hk
        have HMS : Hid ((intOf (Value.int IntKind.i64 ((i : Int) - j))).toNat + (intOf (Value.int IntKind.i64 (j : Int))).toNat < (intOf (Value.int IntKind.i64 (i : Int))).toNat + (intOf (Value.int IntKind.i64 (j : Int))).toNat) := by
          show _ < _
          simp only [intOf]
          omega
        have HIJ : Hid (1 ≤ k ∧ (k : Int) = (i : Int) - j) := ⟨by omega, by omega⟩
        clear e1 hu hk hij
        go_wp2_with (go_at_call 73; refine HC.out.mono ?_; rintro e w2 ⟨rfl, hs2, hf2⟩; have HS2 := Lib.hid hs2; have HF2 := Lib.hid hf2; clear hs2 hf2)
        go_roundw
        case rel => exact ⟨k, j, by rw [HIJ.out.2], rfl, by have := HIJ.out.1; omega, j1, by have := HIJ.out.2; omega, j2, HS2.out, HI.out.2.trans HF2.out⟩
        case measure => exact HMS.out
      · have hgt' : ¬ ((j : Int) < i) := by omega
        obtain ⟨k, hk⟩ : ∃ k : Nat, j = k + i := ⟨j - i, by omega⟩
        have HC := Lib.hid (HSR.out wr u (m + k) i HI.out.1 (by omega) (by omega))
        have e1 : ((u : Nat) : Int) = (m : Int) - i := by omega
        have e2 : ((m + k : Nat) : Int) = (m : Int) + j - i := by omega
        rw [e1, e2] at HC
        have HK := Lib.hid hk
        have HMS : Hid ((intOf (Value.int IntKind.i64 (i : Int))).toNat + (intOf (Value.int IntKind.i64 ((j : Int) - i))).toNat < (intOf (Value.int IntKind.i64 (i : Int))).toNat + (intOf (Value.int IntKind.i64 (j : Int))).toNat) := by
          show _ < _
          simp only [intOf]
          omega
        have HIJ : Hid (1 ≤ k ∧ (k : Int) = (j : Int) - i) := ⟨by omega, by omega⟩
        clear e1 e2 hu hk hij hgt
        go_wp2_with (go_at_call 73; refine HC.out.mono ?_; rintro e w2 ⟨rfl, hs2, hf2⟩; have HS2 := Lib.hid hs2; have HF2 := Lib.hid hf2; clear hs2 hf2)
        go_roundw
        case rel => exact ⟨i, k, rfl, by rw [HIJ.out.2], i1, by have := HIJ.out.1; omega, i2, by have := HIJ.out.2; omega, HS2.out, HI.out.2.trans HF2.out⟩
        case measure => exact HMS.out
end Go.Proofs.Yteikipiigbjgbaa
