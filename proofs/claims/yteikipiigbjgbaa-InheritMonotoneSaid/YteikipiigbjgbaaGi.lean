/- cmp.Compare; the order of threads; the insertion sort. -/
import Derived.Test.YteikipiigbjgbaaGf
import Derived.Deep.LoopGhost
namespace Go.Proofs.Yteikipiigbjgbaa
open Go.RowKit
set_option linter.unusedVariables false

def cmpI (x y : Int) : Int := if x < y then -1 else if y < x then 1 else 0
theorem isnan_any (x : Int) (w : World) : Calls Try.prog 58 #[.int .i64 x] w fun e w' => e = .returned (.bool false) ∧ w = w' := by
  go_enter Try.func58, Try.ntmps58
  go_wp2
  go_ret
  exact ⟨by simp, rfl⟩
theorem compare_any (x y : Int) (w : World) : Calls Try.prog 42 #[.int .i64 x, .int .i64 y] w fun e w' => e = .returned (.int .i64 (cmpI x y)) ∧ w = w' := by
  by_cases h1 : x < y
  · have HV : Hid (cmpI x y = -1) := by show _ = _; rw [cmpI, if_pos h1]
    go_enter Try.func42, Try.ntmps42
    go_wp2_with (go_at_call 58; refine (isnan_any _ _).mono ?_; rintro e w' ⟨rfl, rfl⟩)
    go_ret
    exact ⟨by rw [HV.out] <;> rfl, rfl⟩
  · by_cases h2 : y < x
    · have HV : Hid (cmpI x y = 1) := by show _ = _; rw [cmpI, if_neg h1, if_pos h2]
      go_enter Try.func42, Try.ntmps42
      go_wp2_with (go_at_call 58; refine (isnan_any _ _).mono ?_; rintro e w' ⟨rfl, rfl⟩)
      go_ret
      exact ⟨by rw [HV.out] <;> rfl, rfl⟩
    · have HV : Hid (cmpI x y = 0) := by show _ = _; rw [cmpI, if_neg h1, if_neg h2]
      go_enter Try.func42, Try.ntmps42
      go_wp2_with (go_at_call 58; refine (isnan_any _ _).mono ?_; rintro e w' ⟨rfl, rfl⟩)
      go_ret
      exact ⟨by rw [HV.out] <;> rfl, rfl⟩

/-- The comparison of two threads. -/
def cmpT (bs : List Int) (i j : Nat) : Int := cmpI (bs.getD j 0) (bs.getD i 0)
set_option maxHeartbeats 1000000 in
theorem order_any (a c : Option Addr) (cap m cap' x : Nat) (bs : List Int) (W : World) (hr : RowAt W x 40 (graphV a bs.length cap c m cap')) (hb : NumsIn W a bs) (i j : Nat) (hi : i < bs.length) (hj : j < bs.length) :
    Calls Try.prog 61 #[.int .i64 (i : Int), .int .i64 (j : Int), .pointer (some ⟨x, 0, none⟩)] W fun e w' => e = .returned (.int .i64 (cmpT bs i j)) ∧ ∃ k, w' = W.drewN k := by
  obtain ⟨b, off, rfl, hlt, ci⟩ := hb.get hi
  obtain ⟨b2, off2, e2, hlt2, cj⟩ := hb.get hj
  cases e2
  have c0 : W.cell? ⟨x, 0, none⟩ = some (.slice (some ⟨b, off, none⟩) bs.length cap) := hr.cell 0
  have HV : Hid (cmpT bs i j = cmpI (bs.getD j 0) (bs.getD i 0)) := rfl
  generalize bs.getD j 0 = vj at cj HV
  generalize bs.getD i 0 = vi at ci HV
  have i0 : (0 : Int) ≤ i := by omega
  have i1 : (i : Int) < bs.length := by omega
  have j0 : (0 : Int) ≤ j := by omega
  have j1 : (j : Int) < bs.length := by omega
  clear hr hb hi hj hlt hlt2
  generalize bs.length = n at c0 i1 j1
  go_enter Try.func61, Try.ntmps61
  go_wp2
  go_quiet ((go_at_call 42; exact Calls.quiet_of_same ((compare_any _ _ _).mono fun _ _ k => ⟨k.1, k.2.symm⟩)))
  go_wp2
  go_ret
  exact ⟨by rw [HV.out] <;> rfl, _, rfl⟩

def encA (A : Array Nat) : Array Value := A.map fun x : Nat => Value.int .i64 (x : Int)
/-- A row that holds a permutation of some numbers. -/
def Srt (W : World) (b : Nat) (xs : List Nat) : Prop := ∃ A : Array Nat, A.toList.Perm xs ∧ RowAt W b 3 (encA A)
theorem srt_swap {W : World} {b i j : Nat} {A : Array Nat} {xs : List Nat} (hp : A.toList.Perm xs) (hr : RowAt W b 3 (encA A)) (hi : i < A.size) (hj : j < A.size) :
    Srt ((W.setCell ⟨b, i, none⟩ (.int .i64 ((A[j] : Nat) : Int))).setCell ⟨b, j, none⟩ (.int .i64 ((A[i] : Nat) : Int))) b xs := by
  refine ⟨A.swap i j, ?_, ?_⟩
  · exact (Array.perm_iff_toList_perm.1 (Array.swap_perm hi hj)).trans hp
  · have := (RowAt.set hr i (.int .i64 ((A[j] : Nat) : Int))).set j (.int .i64 ((A[i] : Nat) : Int))
    rw [show ((encA A).setIfInBounds i (.int .i64 ((A[j] : Nat) : Int))).setIfInBounds j (.int .i64 ((A[i] : Nat) : Int)) = encA (A.swap i j) from ?_] at this
    · exact this
    · apply Array.ext_getElem?
      intro k
      rw [Array.getElem?_setIfInBounds, Array.getElem?_setIfInBounds]
      simp only [encA, Array.getElem?_map, Array.getElem?_swap, Array.size_setIfInBounds, Array.size_map]
      by_cases e1 : j = k
      · subst e1; simp [hj]
      · by_cases e2 : i = k
        · subst e2; simp [e1, hi]
        · simp [e1, e2]
theorem Srt.drewN {W : World} {b : Nat} {xs : List Nat} (h : Srt W b xs) (k : Nat) : Srt (W.drewN k) b xs := h
end Go.Proofs.Yteikipiigbjgbaa
