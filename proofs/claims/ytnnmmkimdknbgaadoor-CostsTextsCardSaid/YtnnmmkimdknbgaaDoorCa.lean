/- The contracts of costs.within and costs.isOperation: they compute, and touch no memory. -/
import Derived.Test.YtnnmmkimdknbgaaDoorProg
import Derived.WalkKit
import Derived.Lib.Hide
import Derived.Below
namespace Go.Proofs.YtnnmmkimdknbgaaDoor
open Go.RowKit
set_option linter.unusedVariables false

theorem within_yes (n a b : Int) (w : World) (h1 : a ≤ n) (h2 : n ≤ b) :
    Calls Tryd.prog 33 #[.int .i64 n, .int .i64 a, .int .i64 b] w fun e w' => e = .returned (.bool true) ∧ w = w' := by
  go_enter Tryd.func33, Tryd.ntmps33
  go_wp2
  go_ret
  exact ⟨rfl, rfl⟩
theorem within_lo (n a b : Int) (w : World) (h1 : n < a) :
    Calls Tryd.prog 33 #[.int .i64 n, .int .i64 a, .int .i64 b] w fun e w' => e = .returned (.bool false) ∧ w = w' := by
  go_enter Tryd.func33, Tryd.ntmps33
  go_wp2
  go_ret
  exact ⟨rfl, rfl⟩
theorem within_hi (n a b : Int) (w : World) (h1 : a ≤ n) (h2 : b < n) :
    Calls Tryd.prog 33 #[.int .i64 n, .int .i64 a, .int .i64 b] w fun e w' => e = .returned (.bool false) ∧ w = w' := by
  have hd : decide (n ≤ b) = false := by simp; omega
  go_enter Tryd.func33, Tryd.ntmps33
  go_wp2
  go_ret
  exact ⟨rfl, rfl⟩
theorem within_no (n a b : Int) (w : World) (h : ¬ (a ≤ n ∧ n ≤ b)) :
    Calls Tryd.prog 33 #[.int .i64 n, .int .i64 a, .int .i64 b] w fun e w' => e = .returned (.bool false) ∧ w = w' := by
  by_cases h1 : a ≤ n
  · exact within_hi n a b w h1 (by omega)
  · exact within_lo n a b w (by omega)
def win (a b n : Int) : Bool := decide (a ≤ n) && decide (n ≤ b)
theorem win_yes {a b n : Int} (h1 : a ≤ n) (h2 : n ≤ b) : win a b n = true := by simp [win, h1, h2]
theorem win_no {a b n : Int} (h : ¬ (a ≤ n ∧ n ≤ b)) : win a b n = false := by
  unfold win
  rw [Bool.eq_false_iff]
  simpa using fun h1 h2 => h ⟨h1, h2⟩
/-- The contract of costs.within. -/
theorem within_any (n a b : Int) (w : World) :
    Calls Tryd.prog 33 #[.int .i64 n, .int .i64 a, .int .i64 b] w fun e w' => e = .returned (.bool (win a b n)) ∧ w = w' := by
  by_cases h : a ≤ n ∧ n ≤ b
  · rw [win_yes h.1 h.2]; exact within_yes n a b w h.1 h.2
  · rw [win_no h]; exact within_no n a b w h
theorem isop_yes (n : Int) (w : World) (h1 : 0 ≤ n) (h2 : n < 24) :
    Calls Tryd.prog 30 #[.int .i64 n] w fun e w' => e = .returned (.bool true) ∧ w = w' := by
  go_enter Tryd.func30, Tryd.ntmps30
  go_wp2
  go_ret
  exact ⟨rfl, rfl⟩
theorem isop_no (n : Int) (w : World) (h1 : n < 0 ∨ 24 ≤ n) :
    Calls Tryd.prog 30 #[.int .i64 n] w fun e w' => e = .returned (.bool false) ∧ w = w' := by
  rcases h1 with h1 | h1
  · go_enter Tryd.func30, Tryd.ntmps30
    go_wp2
    go_ret
    exact ⟨rfl, rfl⟩
  · have h0 : 0 ≤ n := by omega
    have hd : decide (n < 24) = false := by simp; omega
    go_enter Tryd.func30, Tryd.ntmps30
    go_wp2
    go_ret
    exact ⟨rfl, rfl⟩
end Go.Proofs.YtnnmmkimdknbgaaDoor
