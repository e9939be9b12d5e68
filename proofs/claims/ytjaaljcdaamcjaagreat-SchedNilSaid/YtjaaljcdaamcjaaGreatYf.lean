/- The contracts of package ready's lowest, below. -/
import Derived.Test.YtjaaljcdaamcjaaGreatYe
import Derived.Test.YtjaaljcdaamcjaaGreatShelf
import Derived.Deep.QuietTactic
import Derived.BigQuiet
import Derived.Lib.BitFns
namespace Go.Proofs.YtjaaljcdaamcjaaGreat.Rd
open Go.RowKit
set_option linter.unusedVariables false

def lowV (n : Int) : Nat := 2 ^ (min n.toNat 64) - 1
theorem low_wrap (m : Nat) (hm : m ≤ 64) : IntKind.u64.wrap (IntKind.u64.wrap ((2 : Int) ^ m) - 1) = ((2 ^ m - 1 : Nat) : Int) := by
  have e : ((2 : Int) ^ m) = ((2 ^ m : Nat) : Int) := by simp
  have hle : 2 ^ m ≤ 2 ^ 64 := Nat.pow_le_pow_right (by decide) hm
  have hpos : 0 < 2 ^ m := Nat.two_pow_pos m
  rw [IntKind.wrap_u64, IntKind.wrap_u64, e]
  generalize 2 ^ m = y at hle hpos
  by_cases h : y = 18446744073709551616
  · subst h; decide
  · omega
set_option maxRecDepth 100000 in
theorem lowest_neg (n : Int) (w : World) (h : n < 0) : Calls Tryz.prog 186 #[.int .i64 n] w fun e w' => e = .returned (.int .u64 (lowV n)) ∧ w = w' := by
  have HV : Hid (lowV n = 0) := by show _ = _; rw [lowV, show n.toNat = 0 from by omega]; rfl
  have hmax : max n 0 = 0 := by omega
  go_enter Tryz.func186, Tryz.ntmps186
  go_wp2
  go_ret
  exact ⟨by rw [HV.out]; rfl, rfl⟩
set_option maxRecDepth 100000 in
theorem lowest_pos (k : Nat) (w : World) (hk : k ≤ 256) : Calls Tryz.prog 186 #[.int .i64 k] w fun e w' => e = .returned (.int .u64 (lowV k)) ∧ w = w' := by
  have h0 : (0 : Int) ≤ k := by omega
  have h1 : (k : Int) ≤ 256 := by omega
  have HV := Lib.hid (low_wrap (min k 64) (by omega))
  go_enter Tryz.func186, Tryz.ntmps186
  go_wp2
  go_ret
  exact ⟨congrArg (fun z => Ending.returned (.int .u64 z)) HV.out, rfl⟩
theorem lowest_any (n : Int) (w : World) (h : n ≤ 256) : Calls Tryz.prog 186 #[.int .i64 n] w fun e w' => e = .returned (.int .u64 (lowV n)) ∧ w = w' := by
  by_cases h0 : n < 0
  · exact lowest_neg n w h0
  · obtain ⟨k, rfl⟩ : ∃ k : Nat, n = k := ⟨n.toNat, by omega⟩
    exact lowest_pos k w (by omega)

theorem bitLen_log (x : Nat) (h0 : x ≠ 0) (h : x < 2 ^ 64) : Lib.bitLen x = x.log2 + 1 := by
  induction x using Nat.strongRecOn with
  | ind x ih =>
    rw [Lib.bitLen_half x h0 h]
    by_cases h2 : 2 ≤ x
    · rw [ih (x / 2) (by omega) (by omega) (by omega), Nat.log2_def x, if_pos h2]; omega
    · obtain rfl : x = 1 := by omega
      rfl
theorem grown_drewN (W : World) (n : Nat) (row : Option Nat) : W.grownBy (W.drewN n) row := ⟨rfl, rfl, rfl, Nat.le_refl _, fun _ _ _ => rfl⟩
theorem and_low (x : Nat) (d : Int) (hx : x < 2 ^ 64) : bits .and .u64 (x : Int) (lowV d : Int) = ((x % 2 ^ (min d.toNat 64) : Nat) : Int) := by
  have hle : 2 ^ (min d.toNat 64) ≤ 2 ^ 64 := Nat.pow_le_pow_right (by decide) (by omega)
  have hlt : lowV d < 18446744073709551616 := by have := Nat.two_pow_pos (min d.toNat 64); unfold lowV; omega
  rw [u64_and_nat x (lowV d) hx hlt, lowV, Nat.and_two_pow_sub_one_eq_mod]

set_option maxHeartbeats 1000000 in
set_option maxRecDepth 100000 in
theorem below_any {W : World} {B : Nat} {q : QS} (h : QAt W B q) (hf : ∀ j, j < 4 → q.filled j < 2 ^ 64) (n : Nat) (hn : n ≤ 256) :
    Calls Tryz.prog 163 #[.pointer (some ⟨B, 512, none⟩), .int .i64 n] W fun e w' => e = .returned (.int .i64 (belowV q.filled n)) ∧ W.grownBy w' none := by
  have HQ := Lib.hid h
  have HF := Lib.hid hf
  have n0 : (0 : Int) ≤ n := by omega
  have n1 : (n : Int) ≤ 256 := by omega
  clear h hf
  go_enter Tryz.func163, Tryz.ntmps163
  go_wp2
  go_loopw [9] (fun i wr => ∃ k : Nat, k ≤ 4 ∧ i = .int .i64 k ∧ Hid (belowV q.filled n = belowV q.filled (min n (64 * (4 - k)))) ∧ Hid (W.grownBy wr none)) (fun i _ => 4 - (intOf i).toNat)
  case atStart => exact ⟨0, by omega, rfl, by show _ = _; rw [Nat.min_eq_left (by omega)], Lib.hid (grown_refl _ _)⟩
  case round =>
    obtain ⟨k, hk, rfl, HK, HG⟩ := hrel
    by_cases hlt : k < 4
    · obtain ⟨m, hm⟩ : ∃ m, 3 - k = m := ⟨_, rfl⟩
      have hkm : (3 : Int) - k = m := by omega
      have HQr := Lib.hid (HQ.out.kept HG.out (by simp))
      have hcell := HQr.out.filled m (by omega)
      have m0 : (0 : Int) ≤ m := by omega
      have m1 : (m : Int) ≤ 3 := by omega
      have HM : Hid (k + m = 3) := by show _ = _; omega
      go_upto_region 6 with (fail)
      have hlw := lowest_any ((n : Int) - (m : Int) * 64)
      have hnm : (n : Int) - (m : Int) * 64 ≤ 256 := by omega
      have HLW : Hid (∀ w, Calls Tryz.prog 186 #[.int .i64 ((n : Int) - (m : Int) * 64)] w fun e w' => e = .returned (.int .u64 (lowV ((n : Int) - (m : Int) * 64))) ∧ w' = w) := fun w => (hlw w hnm).mono fun _ _ ⟨a, b⟩ => ⟨a, b.symm⟩
      clear hlw hnm
      go_quiet ((go_at_call 186; exact Calls.quiet_of_same (HLW.out _)))
      have HGr : Hid (W.grownBy (wr.drewN nq) none) := grown_trans HG.out (grown_drewN _ _ _)
      generalize wr.drewN nq = wN at HGr ⊢
      have hfm := HF.out m (by omega)
      obtain ⟨c, hc⟩ : ∃ c, min ((n : Int) - (m : Int) * 64).toNat 64 = c := ⟨_, rfl⟩
      obtain ⟨y, hy⟩ : ∃ y, q.filled m % 2 ^ c = y := ⟨_, rfl⟩
      have hand := and_low (q.filled m) ((n : Int) - (m : Int) * 64) hfm
      rw [hc, hy] at hand
      have hi : ∀ i, min n (64 * m) ≤ i → i < min n (64 * (m + 1)) → i / 64 = m ∧ i % 64 < c ∧ i = 64 * m + i % 64 := by intro i h1 h2; omega
      have hc64 : c ≤ 64 := by omega
      have hcn : 64 * m + c ≤ min n (64 * (m + 1)) ∨ c = 0 := by omega
      have hk4 : 4 - k = m + 1 := by omega
      have hk5 : 4 - (k + 1) = m := by omega
      rw [hk4] at HK
      rw [hand]
      by_cases hy0 : y = 0
      · have HN : Hid (belowV q.filled n = belowV q.filled (min n (64 * (4 - (k + 1))))) := by
          show _ = _
          rw [HK.out, hk5]
          refine belowV_skip (by omega) fun i h1 h2 => ?_
          obtain ⟨a1, a2, _⟩ := hi i h1 h2
          rw [a1]
          exact low_zero (by rw [hy, hy0]) _ a2
        have hne : ((y : Int) != 0) = false := by rw [hy0]; rfl
        clear hand hi hc64 hcn hk4 hk5 hy0 hc hy hfm HQr hcell
        go_wp2
        go_roundw
        case rel => exact ⟨k + 1, by omega, by go_num, HN, HGr⟩
        case measure => simp [intOf]; omega
      · have ht := low_top (x := q.filled m) (m := c) (by rw [hy]; exact hy0)
        rw [hy] at ht
        obtain ⟨b1, b2, b3⟩ := ht
        have HN : Hid (belowV q.filled n = ((64 * m + y.log2 : Nat) : Int)) := by
          show _ = _
          rw [HK.out]
          refine belowV_hit (by omega) ?_ fun i h1 h2 => ?_
          · rw [show (64 * m + y.log2) / 64 = m from by omega, show (64 * m + y.log2) % 64 = y.log2 from by omega]; exact b2
          · obtain ⟨a1, a2, a3⟩ := hi i (by omega) h2
            rw [a1]
            exact b3 _ (by omega) a2
        have hne : ((y : Int) != 0) = true := by simp [hy0]
        have hy64 : y < 2 ^ 64 := by rw [← hy]; exact Nat.lt_of_le_of_lt (Nat.mod_le _ _) hfm
        have HLEN : Hid (Calls Tryz.prog 187 #[.int .u64 (y : Int)] wN fun e w' => e = .returned (.int .i64 ((y.log2 : Int) + 1)) ∧ w' = wN) := by
          have := Tryz.bits_Len64 (y : Int) wN (by omega) (by omega)
          rw [Int.toNat_natCast, bitLen_log y hy0 hy64] at this
          exact this
        obtain ⟨g, hg⟩ : ∃ g, y.log2 = g := ⟨_, rfl⟩
        rw [hg] at HLEN HN b1
        have g0 : (0 : Int) ≤ g := by omega
        have g1 : (g : Int) < 64 := by omega
        clear hand hi hcn hk4 hk5 hy0 hc hy hfm HQr hcell b1 b2 b3 hy64 hg hc64
        go_wp2_with (go_at_call 187; refine HLEN.out.mono ?_; rintro e w' ⟨rfl, rfl⟩)
        go_ret
        exact ⟨by rw [HN.out]; refine congrArg (fun z => Ending.returned (.int .i64 z)) ?_; omega, HGr.out⟩
    · obtain rfl : k = 4 := by omega
      go_wp2
      go_ret
      exact ⟨by rw [HK.out]; simp [belowV], HG.out⟩
end Go.Proofs.YtjaaljcdaamcjaaGreat.Rd
