/- The walk of the law CostsValues. -/
import Derived.Test.YtgbbidgmhmbehaaRb
namespace Go.Proofs.Ytgbbidgmhmbehaa
open Go.RowKit
set_option linter.unusedVariables false

theorem eql_def (w : World) : (binOp .eql 29 (.agg (tabA 4 1 defL)) (.agg (tabA 4 1 defL))).run Try.prog w = .ok (.bool true) w := by kernel_rfl

set_option maxHeartbeats 2000000 in
set_option maxRecDepth 100000 in
theorem values_walk (s c : Int) (l : List Int) (hl : l.length = 24) (op n : Int) (w : World) :
    Calls Try.prog 3 #[.agg (tabA s c l), .int .i64 op, .int .i64 n] w fun e w' => e = .returned (.bool true) ∧ Below w.heap.size w w' := by
  have HL := Lib.hid hl
  have HT := Lib.hid (TabAt.box w s c l 24)
  have HS := Lib.hid (size_tab s c l hl)
  obtain ⟨v, e0, hv⟩ := costV_some s c l op n
  obtain ⟨e1, hk⟩ := chkV_some s c l
  have HV := Lib.hid hv
  have HK := Lib.hid hk
  clear hl hv hk
  go_enter Try.func3, Try.ntmps3
  go_upto_region 1 with (fail)
  generalize w.alloc _ = wA at HT ⊢
  go_upto_region 2 with (first
    | (refine wpList_load_mid rfl 24 (Operand.tmp 3) rfl w.heap.size 0 rfl (tabL s c l) _ HT.out.whole Try.underlying24 rfl HS.out ?_)
    | (go_at_call 6; refine (cost_any s c l HL.out op n v e0 _ HV.out).mono ?_; rintro e w1 ⟨rfl, hb1⟩))
  have HT1 := Lib.hid (HT.out.call hb1)
  clear hb1 HT
  go_upto_region 3 with (first
    | (refine wpList_load_mid rfl 24 (Operand.tmp 3) rfl w.heap.size 0 rfl (tabL s c l) _ HT1.out.whole Try.underlying24 rfl HS.out ?_)
    | (go_at_call 8; refine (from_any s c l HL.out _).mono ?_; rintro e w2 ⟨rfl, hb2⟩)
    | (go_at_call 7; refine (refcost_any s c l HL.out op n v e0 _ HV.out).mono ?_; rintro e w3 ⟨rfl, hb3⟩))
  have HT3 := Lib.hid ((HT1.out.call hb2).call hb3)
  clear hb2 hb3 HT1
  have hed := eql_def
  have HRG : Hid (∀ v, (∃ p : Regrown, v = Sort.grow (redrawn w3 p.d) p.os) → v.rangeAt w.heap.size 0 (tabL s c l)) := fun v ⟨p, hp⟩ j x hx => by rw [hp]; exact cell_regrown (HT3.out.whole j x hx) _ _
  go_outline
  refine wp_region_quiet_below (by kernel_rfl) (by kernel_rfl) ?_
  repeat (first
    | (refine BigFrame.wpQuiet_want rfl (fun K hK => ?_)
       refine quiet_load_mid 24 _ rfl w.heap.size 0 rfl (tabL s c l) _ HRG.out Try.underlying24 rfl HS.out ?_
       refine hK _ ?_
       clear hK K)
    | go_big_quiet_skip
    | quiet_step (first
      | (go_at_call 9; exact Calls.regrown_of (check_any s c l HL.out e1 _ HK.out))
      | (go_at_call 10; exact Calls.regrown_of (refcheck_any s c l HL.out e1 _ HK.out))
      | (go_at_call 8; exact Calls.regrown_of (from_any _ _ _ (by first | exact HL.out | rfl) _))
      | (go_at_call 11; exact Calls.regrown_of (default_any _))
      | (go_at_call 12; exact Calls.regrown_of (refdefault_any _))
      | (go_at_call 13; exact Calls.regrown_of (awake_any _))))
  refine wpQuiet_nil ?_
  intro _ hw'
  obtain ⟨⟨dq, osq⟩, hw''⟩ := hw'
  subst hw''
  have HB : Hid (Below w.heap.size w (Sort.grow (redrawn w3 dq) osq)) := below_call HT3.out.below (below_regrown _ _ _)
  go_wp2
  go_ret
  exact ⟨rfl, HB.out⟩
end Go.Proofs.Ytgbbidgmhmbehaa
