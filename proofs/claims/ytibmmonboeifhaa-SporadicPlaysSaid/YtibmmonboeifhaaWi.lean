/- The reference's Check; the statement's From. -/
import Derived.Test.YtibmmonboeifhaaWg
namespace Go.Proofs.Ytibmmonboeifhaa
open Go.RowKit
set_option linter.unusedVariables false

set_option maxRecDepth 100000 in
set_option maxHeartbeats 1000000 in
theorem rcheck_any (b p n l : Int) (w : World) : Calls Try.prog 29 #[.agg (parA b p n l)] w fun e w' => e = .returned (.int .i64 (chkP b p n l)) ∧ Below w.heap.size w w' := by
  have HR := Lib.hid (RowAt.new w 53 (parA b p n l))
  have HG : Hid (Below w.heap.size w (w.alloc (.cells (parA b p n l) 53))) := (Below.refl _ _).alloc (Nat.le_refl _) _
  have bad : ∀ (h : ¬ (1 ≤ b ∧ b ≤ p ∧ p ≤ 1000000 ∧ 1 ≤ n ∧ n ≤ 32 ∧ isPri l = true)), Hid (chkP b p n l = 34) := fun h => by show _ = _; rw [chkP, if_neg (fun e => h ((okP_iff _ _ _ _).1 e))]
  by_cases h1 : 1 ≤ b
  case neg =>
    have HC := bad (by omega)
    have h1' : b < 1 := by omega
    clear h1 bad
    generalize chkP b p n l = v at HC ⊢
    go_enter Try.func29, Try.ntmps29
    go_upto_region 1 with (fail)
    generalize World.alloc w _ = W at HR HG ⊢
    generalize w.heap.size = x at HR ⊢
    have c0 : W.cell? ⟨x, 0, none⟩ = some (.int .i64 b) := HR.out.cell 0
    go_wp2
    go_ret
    exact ⟨by rw [HC.out] <;> rfl, HG.out⟩
  by_cases h1b : b ≤ 1000000
  case neg =>
    have HC := bad (by omega)
    have h1' : 1000000 < b := by omega
    clear h1b bad
    generalize chkP b p n l = v at HC ⊢
    go_enter Try.func29, Try.ntmps29
    go_upto_region 1 with (fail)
    generalize World.alloc w _ = W at HR HG ⊢
    generalize w.heap.size = x at HR ⊢
    have c0 : W.cell? ⟨x, 0, none⟩ = some (.int .i64 b) := HR.out.cell 0
    go_wp2
    go_ret
    exact ⟨by rw [HC.out] <;> rfl, HG.out⟩
  by_cases h2 : b ≤ p
  case neg =>
    have HC := bad (by omega)
    have h2' : p < b := by omega
    clear h2 bad
    generalize chkP b p n l = v at HC ⊢
    go_enter Try.func29, Try.ntmps29
    go_upto_region 1 with (fail)
    generalize World.alloc w _ = W at HR HG ⊢
    generalize w.heap.size = x at HR ⊢
    have c0 : W.cell? ⟨x, 0, none⟩ = some (.int .i64 b) := HR.out.cell 0
    have c1 : W.cell? ⟨x, 1, none⟩ = some (.int .i64 p) := HR.out.cell 1
    go_wp2
    go_ret
    exact ⟨by rw [HC.out] <;> rfl, HG.out⟩
  by_cases h3 : p ≤ 1000000
  case neg =>
    have HC := bad (by omega)
    have h3' : 1000000 < p := by omega
    clear h3 bad
    generalize chkP b p n l = v at HC ⊢
    go_enter Try.func29, Try.ntmps29
    go_upto_region 1 with (fail)
    generalize World.alloc w _ = W at HR HG ⊢
    generalize w.heap.size = x at HR ⊢
    have c0 : W.cell? ⟨x, 0, none⟩ = some (.int .i64 b) := HR.out.cell 0
    have c1 : W.cell? ⟨x, 1, none⟩ = some (.int .i64 p) := HR.out.cell 1
    go_wp2
    go_ret
    exact ⟨by rw [HC.out] <;> rfl, HG.out⟩
  by_cases h4 : 1 ≤ n
  case neg =>
    have HC := bad (by omega)
    have h4' : n < 1 := by omega
    clear h4 bad
    generalize chkP b p n l = v at HC ⊢
    go_enter Try.func29, Try.ntmps29
    go_upto_region 1 with (fail)
    generalize World.alloc w _ = W at HR HG ⊢
    generalize w.heap.size = x at HR ⊢
    have c0 : W.cell? ⟨x, 0, none⟩ = some (.int .i64 b) := HR.out.cell 0
    have c1 : W.cell? ⟨x, 1, none⟩ = some (.int .i64 p) := HR.out.cell 1
    have c2 : W.cell? ⟨x, 2, none⟩ = some (.int .i64 n) := HR.out.cell 2
    go_wp2
    go_ret
    exact ⟨by rw [HC.out] <;> rfl, HG.out⟩
  by_cases h5 : n ≤ 32
  case neg =>
    have HC := bad (by omega)
    have h5' : 32 < n := by omega
    clear h5 bad
    generalize chkP b p n l = v at HC ⊢
    go_enter Try.func29, Try.ntmps29
    go_upto_region 1 with (fail)
    generalize World.alloc w _ = W at HR HG ⊢
    generalize w.heap.size = x at HR ⊢
    have c0 : W.cell? ⟨x, 0, none⟩ = some (.int .i64 b) := HR.out.cell 0
    have c1 : W.cell? ⟨x, 1, none⟩ = some (.int .i64 p) := HR.out.cell 1
    have c2 : W.cell? ⟨x, 2, none⟩ = some (.int .i64 n) := HR.out.cell 2
    go_wp2
    go_ret
    exact ⟨by rw [HC.out] <;> rfl, HG.out⟩
  by_cases h6 : 0 ≤ l
  case neg =>
    have HC := bad (fun e => by have := (isPri_iff l).1 e.2.2.2.2.2; omega)
    have h6' : l < 0 := by omega
    clear h6 bad
    generalize chkP b p n l = v at HC ⊢
    go_enter Try.func29, Try.ntmps29
    go_upto_region 1 with (fail)
    generalize World.alloc w _ = W at HR HG ⊢
    generalize w.heap.size = x at HR ⊢
    have c0 : W.cell? ⟨x, 0, none⟩ = some (.int .i64 b) := HR.out.cell 0
    have c1 : W.cell? ⟨x, 1, none⟩ = some (.int .i64 p) := HR.out.cell 1
    have c2 : W.cell? ⟨x, 2, none⟩ = some (.int .i64 n) := HR.out.cell 2
    have c3 : W.cell? ⟨x, 3, none⟩ = some (.int .i64 l) := HR.out.cell 3
    go_wp2
    go_ret
    exact ⟨by rw [HC.out] <;> rfl, HG.out⟩
  by_cases h7 : l ≤ 255
  case neg =>
    have HC := bad (fun e => by have := (isPri_iff l).1 e.2.2.2.2.2; omega)
    have h7' : 255 < l := by omega
    clear h7 bad
    generalize chkP b p n l = v at HC ⊢
    go_enter Try.func29, Try.ntmps29
    go_upto_region 1 with (fail)
    generalize World.alloc w _ = W at HR HG ⊢
    generalize w.heap.size = x at HR ⊢
    have c0 : W.cell? ⟨x, 0, none⟩ = some (.int .i64 b) := HR.out.cell 0
    have c1 : W.cell? ⟨x, 1, none⟩ = some (.int .i64 p) := HR.out.cell 1
    have c2 : W.cell? ⟨x, 2, none⟩ = some (.int .i64 n) := HR.out.cell 2
    have c3 : W.cell? ⟨x, 3, none⟩ = some (.int .i64 l) := HR.out.cell 3
    go_wp2
    go_ret
    exact ⟨by rw [HC.out] <;> rfl, HG.out⟩
  have HC : Hid (chkP b p n l = 0) := by show _ = _; rw [chkP, if_pos ((okP_iff _ _ _ _).2 ⟨h1, h2, h3, h4, h5, (isPri_iff l).2 ⟨h6, h7⟩⟩)]
  clear bad
  generalize chkP b p n l = v at HC ⊢
  go_enter Try.func29, Try.ntmps29
  go_upto_region 1 with (fail)
  generalize World.alloc w _ = W at HR HG ⊢
  generalize w.heap.size = x at HR ⊢
  have c0 : W.cell? ⟨x, 0, none⟩ = some (.int .i64 b) := HR.out.cell 0
  have c1 : W.cell? ⟨x, 1, none⟩ = some (.int .i64 p) := HR.out.cell 1
  have c2 : W.cell? ⟨x, 2, none⟩ = some (.int .i64 n) := HR.out.cell 2
  have c3 : W.cell? ⟨x, 3, none⟩ = some (.int .i64 l) := HR.out.cell 3
  go_wp2
  go_ret
  exact ⟨by rw [HC.out] <;> rfl, HG.out⟩
end Go.Proofs.Ytibmmonboeifhaa
