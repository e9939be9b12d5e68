/- The contracts of Check and New. -/
import Derived.Test.YtibmmonboeifhaaUh
namespace Go.Proofs.Ytibmmonboeifhaa
open Go.RowKit
set_option linter.unusedVariables false

def parA (b p n l : Int) : Array Value := #[.int .i64 b, .int .i64 p, .int .i64 n, .int .i64 l]
def okP (b p n l : Int) : Bool := decide (1 ≤ b) && decide (b ≤ p) && decide (p ≤ 1000000) && decide (1 ≤ n) && decide (n ≤ 32) && isPri l
theorem okP_iff (b p n l : Int) : okP b p n l = true ↔ 1 ≤ b ∧ b ≤ p ∧ p ≤ 1000000 ∧ 1 ≤ n ∧ n ≤ 32 ∧ isPri l = true := by
  simp [okP, and_assoc]
def chkP (b p n l : Int) : Int := if okP b p n l = true then 0 else 34
set_option maxHeartbeats 1000000 in
theorem check_any (b p n l : Int) (w : World) : Calls Try.prog 28 #[.agg (parA b p n l)] w fun e w' => e = .returned (.int .i64 (chkP b p n l)) ∧ Below w.heap.size w w' := by
  have HR := Lib.hid (RowAt.new w 45 (parA b p n l))
  have HG : Hid (Below w.heap.size w (w.alloc (.cells (parA b p n l) 45))) := (Below.refl _ _).alloc (Nat.le_refl _) _
  have HP : Hid (∀ w, Calls Try.prog 62 #[.int .i64 l] w fun e w' => e = .returned (.bool (isPri l)) ∧ w = w') := fun w => ispri_any l w
  have bad : ∀ (h : ¬ (1 ≤ b ∧ b ≤ p ∧ p ≤ 1000000 ∧ 1 ≤ n ∧ n ≤ 32 ∧ isPri l = true)), Hid (chkP b p n l = 34) := fun h => by show _ = _; rw [chkP, if_neg (fun e => h ((okP_iff _ _ _ _).1 e))]
  by_cases h1 : 1 ≤ b
  case neg =>
    have HC := bad (by omega)
    have h1' : b < 1 := by omega
    clear h1 bad
    generalize chkP b p n l = v at HC ⊢
    go_enter Try.func28, Try.ntmps28
    go_upto_region 1 with (fail)
    generalize World.alloc w _ = W at HR HG ⊢
    generalize w.heap.size = x at HR ⊢
    have c0 : W.cell? ⟨x, 0, none⟩ = some (.int .i64 b) := HR.out.cell 0
    go_wp2
    go_ret
    exact ⟨by rw [HC.out] <;> rfl, HG.out⟩
  by_cases h2 : b ≤ p
  case neg =>
    have HC := bad (by omega)
    have h2' : p < b := by omega
    clear h2 bad
    generalize chkP b p n l = v at HC ⊢
    go_enter Try.func28, Try.ntmps28
    go_upto_region 1 with (fail)
    generalize World.alloc w _ = W at HR HG ⊢
    generalize w.heap.size = x at HR ⊢
    have c0 : W.cell? ⟨x, 0, none⟩ = some (.int .i64 b) := HR.out.cell 0
    have c1 : W.cell? ⟨x, 1, none⟩ = some (.int .i64 p) := HR.out.cell 1
    go_wp2
    go_ret
    exact ⟨by rw [HC.out] <;> rfl, HG.out⟩
  by_cases h3 : p ≤ 1000000
  case neg =>
    have HC := bad (by omega)
    have h3' : 1000000 < p := by omega
    clear h3 bad
    generalize chkP b p n l = v at HC ⊢
    go_enter Try.func28, Try.ntmps28
    go_upto_region 1 with (fail)
    generalize World.alloc w _ = W at HR HG ⊢
    generalize w.heap.size = x at HR ⊢
    have c0 : W.cell? ⟨x, 0, none⟩ = some (.int .i64 b) := HR.out.cell 0
    have c1 : W.cell? ⟨x, 1, none⟩ = some (.int .i64 p) := HR.out.cell 1
    go_wp2
    go_ret
    exact ⟨by rw [HC.out] <;> rfl, HG.out⟩
  by_cases h4 : 1 ≤ n
  case neg =>
    have HC := bad (by omega)
    have h4' : n < 1 := by omega
    clear h4 bad
    generalize chkP b p n l = v at HC ⊢
    go_enter Try.func28, Try.ntmps28
    go_upto_region 1 with (fail)
    generalize World.alloc w _ = W at HR HG ⊢
    generalize w.heap.size = x at HR ⊢
    have c0 : W.cell? ⟨x, 0, none⟩ = some (.int .i64 b) := HR.out.cell 0
    have c1 : W.cell? ⟨x, 1, none⟩ = some (.int .i64 p) := HR.out.cell 1
    have c2 : W.cell? ⟨x, 2, none⟩ = some (.int .i64 n) := HR.out.cell 2
    go_wp2
    go_ret
    exact ⟨by rw [HC.out] <;> rfl, HG.out⟩
  by_cases h5 : n ≤ 32
  case neg =>
    have HC := bad (by omega)
    have h5' : 32 < n := by omega
    clear h5 bad
    generalize chkP b p n l = v at HC ⊢
    go_enter Try.func28, Try.ntmps28
    go_upto_region 1 with (fail)
    generalize World.alloc w _ = W at HR HG ⊢
    generalize w.heap.size = x at HR ⊢
    have c0 : W.cell? ⟨x, 0, none⟩ = some (.int .i64 b) := HR.out.cell 0
    have c1 : W.cell? ⟨x, 1, none⟩ = some (.int .i64 p) := HR.out.cell 1
    have c2 : W.cell? ⟨x, 2, none⟩ = some (.int .i64 n) := HR.out.cell 2
    go_wp2
    go_ret
    exact ⟨by rw [HC.out] <;> rfl, HG.out⟩
  by_cases h6 : isPri l = true
  case neg =>
    have HC := bad (fun e => h6 e.2.2.2.2.2)
    have h6' : isPri l = false := by simpa using h6
    rw [h6'] at HP
    clear h6 h6' bad
    generalize chkP b p n l = v at HC ⊢
    go_enter Try.func28, Try.ntmps28
    go_upto_region 1 with (fail)
    generalize World.alloc w _ = W at HR HG ⊢
    generalize w.heap.size = x at HR ⊢
    have c0 : W.cell? ⟨x, 0, none⟩ = some (.int .i64 b) := HR.out.cell 0
    have c1 : W.cell? ⟨x, 1, none⟩ = some (.int .i64 p) := HR.out.cell 1
    have c2 : W.cell? ⟨x, 2, none⟩ = some (.int .i64 n) := HR.out.cell 2
    have c3 : W.cell? ⟨x, 3, none⟩ = some (.int .i64 l) := HR.out.cell 3
    go_wp2_with (go_at_call 62; refine (HP.out _).mono ?_; rintro e w' ⟨rfl, rfl⟩)
    go_ret
    exact ⟨by rw [HC.out] <;> rfl, HG.out⟩
  have HC : Hid (chkP b p n l = 0) := by show _ = _; rw [chkP, if_pos ((okP_iff _ _ _ _).2 ⟨h1, h2, h3, h4, h5, h6⟩)]
  rw [h6] at HP
  clear h6 bad
  generalize chkP b p n l = v at HC ⊢
  go_enter Try.func28, Try.ntmps28
  go_upto_region 1 with (fail)
  generalize World.alloc w _ = W at HR HG ⊢
  generalize w.heap.size = x at HR ⊢
  have c0 : W.cell? ⟨x, 0, none⟩ = some (.int .i64 b) := HR.out.cell 0
  have c1 : W.cell? ⟨x, 1, none⟩ = some (.int .i64 p) := HR.out.cell 1
  have c2 : W.cell? ⟨x, 2, none⟩ = some (.int .i64 n) := HR.out.cell 2
  have c3 : W.cell? ⟨x, 3, none⟩ = some (.int .i64 l) := HR.out.cell 3
  go_wp2_with (go_at_call 62; refine (HP.out _).mono ?_; rintro e w' ⟨rfl, rfl⟩)
  go_ret
  exact ⟨by rw [HC.out] <;> rfl, HG.out⟩
end Go.Proofs.Ytibmmonboeifhaa
