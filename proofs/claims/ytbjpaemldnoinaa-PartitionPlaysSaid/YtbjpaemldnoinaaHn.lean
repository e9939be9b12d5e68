/-
  For any configuration and calls (at most 20 partitions and 60 calls are tried), the meter answers as the definition does (PartitionPlays returns true and leaves its arguments as they were).
  Conditions: none but those that the given row prints.
-/
import Derived.Test.YtbjpaemldnoinaaHm
namespace Go.Proofs.Ytbjpaemldnoinaa.partitionPlays
open Go.ChangeShapes Go.WideShapes Go.ChangeAt Go.RowKit Go.Deep Go.Joins
set_option linter.unusedVariables false

set_option maxRecDepth 100000 in
theorem lifted (os : Os) (started : os.Started) (H : Type) (enc : TypeId × Value → H) :
    ReturnsInHanded {} Try.checked os 4 .any (Rows.partitionPlaysSpec.pre6 enc Try.prog Try.f4 Rows.partitionPlaysRow.domain false) (Rows.partitionPlaysSpec.post enc Try.prog Try.f4 false true false false) := by
  refine returnsInHanded_of_change (C := Try.checked) own started (by kernel_rfl) Try.func4
    (ChangeSpec.witness6 (enc := enc) (C := Try.checked) false ⟨#[], #[.agg #[.int .i64 0, .int .i64 0, .slice none 0 0], .slice none 0 0], []⟩ 8 (by kernel_rfl) (by kernel_rfl) (by kernel_rfl) (by kernel_rfl)) ?_
  intro W base args ds gs before hval0 hW hcnd _
  have hval : ∀ (j : Nat) t v, Try.f4.params[j]? = some t → args[j]? = some v → Value.okWide Try.prog W .any base t v := hval0
  have hW' := hW
  obtain ⟨p, q, hA0, hV, rfl, hfz, hnd⟩ := hW
  have hA : DataW.TrodAll enc Try.prog W 0 (fun _ => true) true Try.f4.params.toList args.toList ds p := hA0
  rw [Try.params4] at hA hval
  obtain ⟨v0, vs0, d0, ds0, p0, q0, hargs, rfl, rfl, h0, r0⟩ := trodAll_cons hA
  obtain ⟨v1, vs1, d1, ds1, p1, q1, rfl, rfl, rfl, h1, r1⟩ := trodAll_cons r0
  obtain ⟨rfl, rfl, rfl⟩ := trodAll_nil r1
  obtain rfl : args = #[v0, v1] := by cases args; simp_all
  obtain ⟨rfl, rfl⟩ := trodVars_none hV
  obtain ⟨win, pr, a, P, cap, rfl, hP⟩ := open_cfg (hval 0 40 v0 rfl rfl) h0
  obtain ⟨a1, n1, cap1, rfl⟩ := okWide_slice Try.underlying41 (hval 1 41 v1 rfl rfl)
  have k0 := h0
  have k1 := h1
  have lt0 : ∀ x ∈ p0, x.block < W.heap.size := by obtain ⟨m, hm⟩ := k0; exact DataW.trod_lt m _ _ _ hm
  have lt1 : ∀ x ∈ p1, x.block < W.heap.size := by obtain ⟨m, hm⟩ := k1; exact DataW.trod_lt m _ _ _ hm
  clear hA0 hval0
  obtain ⟨A, rfl, hA2⟩ := open_actsP h1
  have walk : Calls Try.prog 4 #[.agg #[.int .i64 win, .int .i64 pr, .slice a P.length cap], .slice a1 A.length cap1] W fun e w' => e = .returned (.bool true) ∧ Fr (fun _ => False) W w' := by
    by_cases hl : 20 < P.length ∨ 60 < A.length
    · exact plays_long W win pr a _ cap a1 _ cap1 hl
    · by_cases hz : cfgV win pr P = 0
      · have ho := cfg_ok hz
        obtain ⟨w, rfl⟩ : ∃ k : Nat, win = k := ⟨win.toNat, by omega⟩
        obtain ⟨p, rfl⟩ : ∃ k : Nat, pr = k := ⟨pr.toNat, by omega⟩
        exact plays_ok W w p a cap P hP hz a1 cap1 A (by omega) hA2
      · exact plays_bad W win pr a cap P hP _ rfl hz (by omega) a1 cap1 A (by omega) hA2
  refine walk.mono fun e W' ⟨he, hf⟩ => ?_
  have bel := fr_below hf
  subst he
  exact ⟨_, rfl, _, _, _, [], _, [], hW', trodAll_mk1 (shut_bool Try.underlying4 _), (trodAll_cons_mk (Below.trod laidOut (by kernel_rfl) (of_decide_eq_true (by kernel_rfl)) k0 bel lt0) (trodAll_cons_mk (Below.trod laidOut (by kernel_rfl) (of_decide_eq_true (by kernel_rfl)) k1 bel lt1) trodAll_mk0)), rfl, bel.frame _, fun h => by cases h⟩

theorem over : Rows.partitionPlaysRow.holds Try.pinned (OpenSpec.ofChange Rows.partitionPlaysSpec) :=
  OpenClaim.holds_of_wide 4 Try.f4 rfl rfl rfl rfl rfl rfl rfl ⟨rfl, rfl, rfl, rfl, rfl⟩ rfl rfl rfl rfl rfl (by kernel_rfl) Try.func4 (by kernel_rfl)
    (of_decide_eq_true (by kernel_rfl)) (by unfold Func.isWrapper; first | (rw [if_pos (by decide +kernel)]; kernel_rfl) | (rw [if_neg (by decide +kernel)]; exact ⟨rfl, rfl⟩))
    (fun os started H enc _ => lifted os started H enc)

theorem proved : Rows.PartitionPlaysSaid := over
#print axioms proved
end Go.Proofs.Ytbjpaemldnoinaa.partitionPlays
