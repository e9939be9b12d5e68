/-
  For every table and list of calls, costs.Path answers as the specification's (CostsPaths returns true and leaves its arguments as they were).
  Conditions: none but those that the given row prints.
-/
import Derived.Test.YtgbbidgmhmbehaaPc
import Derived.Test.YtgbbidgmhmbehaaTo
import Derived.ProofKit
import Derived.OpenShut
import Derived.ChangeOld
import Derived.Below
import Derived.SizedLaws
import Derived.Deep.Slices
import Derived.Deep.Fields
namespace Go.Proofs.Ytgbbidgmhmbehaa.costsPaths
open Go.ChangeShapes Go.WideShapes Go.ChangeAt Go.RowKit Go.Deep
set_option linter.unusedVariables false

theorem own : ownKnob Try.prog.godebug = none := by kernel_rfl
theorem laidOut : laidOutB Try.prog = true := by kernel_rfl
theorem cellsCall : Try.prog.cellsOf 48 = 2 := by kernel_rfl
theorem cellsInt : Try.prog.cellsOf 3 = 1 := by kernel_rfl
theorem bytesCall : Try.prog.bytesOf 48 = 16 := by kernel_rfl

/-- A list of calls that came in: it is empty, or its calls' numbers lie in a row. -/
theorem open_calls {H : Type} {enc : TypeId × Value → H} {w : World} {base : Nat} {spare : Nat → Bool} {held : Bool} {a : Option Addr} {n cap : Nat} {d : DataW H} {p : List MemPlace}
    (h : DataW.Trod enc Try.prog w base spare held 45 (.slice a n cap) d p) :
    (n = 0 ∧ d = .nil) ∨ ∃ (elems rest : List (DataW H)), d = .slice elems rest ∧ elems.length = n ∧ (n = 0 ∨ ∃ (b off : Nat) (C : List (Int × Int)), a = some ⟨b, off, none⟩ ∧ C.length = n ∧ CallsAt w b off C) := by
  obtain ⟨fuel, hf⟩ := h
  rcases open_slice Try.underlying45 hf with ⟨hcs, hx⟩ | ⟨a', len, cap', m, k, D, Pl, hcs, hb, hl, hm, hmm, hx, hi⟩
  · simp [Value.cells] at hcs
    simp only [Prod.mk.injEq] at hx
    exact .inl ⟨hcs.2.1, hx.1⟩
  · simp [Value.cells] at hcs
    obtain ⟨rfl, rfl, rfl⟩ := hcs
    simp only [Prod.mk.injEq] at hx
    refine .inr ⟨_, _, hx.1, by simp, ?_⟩
    by_cases hn : n = 0
    · exact .inl hn
    right
    have hlm : n ≤ m := by rw [hmm]; split <;> omega
    have hone : ∀ i, i < n → ∃ x : Int × Int, w.cell? (a'.add (i * 2 + 0)) = some (.int .i64 x.1) ∧ w.cell? (a'.add (i * 2 + 1)) = some (.int .i64 x.2) := fun i hin => by
      obtain ⟨cs', hc, ht⟩ := hi i (by omega)
      rw [cellsCall] at hc
      obtain ⟨_, hcl, hat⟩ := World.cells?_some hc
      obtain ⟨xs, q, _, _, _, hxs, hfs⟩ := DataW.trod_struct Try.underlying48 ht
      have hxl : xs.length = 2 := hxs
      have e0 : DataW.trod enc Try.prog w base spare held q 3 ((cs'.drop 0).take (Try.prog.cellsOf 3)) = xs[0]? := hfs 0 _ rfl
      have e1 : DataW.trod enc Try.prog w base spare held q 3 ((cs'.drop 1).take (Try.prog.cellsOf 3)) = xs[1]? := hfs 1 _ rfl
      rw [List.getElem?_eq_getElem (by omega), cellsInt] at e0 e1
      obtain ⟨x, f0, _, _⟩ := DataW.trod_int Try.underlying3 e0
      obtain ⟨y, f1, _, _⟩ := DataW.trod_int Try.underlying3 e1
      match cs', hcl with
      | [u, v], _ =>
        simp at f0 f1
        subst f0
        subst f1
        have a0 := hat 0 (by omega)
        have a1 := hat 1 (by omega)
        rw [Go.Deep.add_add] at a0 a1
        exact ⟨(x, y), a0, a1⟩
    obtain ⟨V, hV⟩ := choose_lt hone
    obtain ⟨b, off, spot⟩ := a'
    have hs : spot = none := by
      have := World.cell?_spot (hV 0 (by omega)).1
      simpa [Addr.add] using this
    subst hs
    refine ⟨b, off, (List.range n).map V, rfl, by simp, ?_, fun i hin => ?_⟩
    · have := World.block_lt_of_cell? w _ (hV 0 (by omega)).1
      simpa [Addr.add] using this
    · have hin' : i < n := by simpa using hin
      have := hV i hin'
      rw [show ((List.range n).map V).getD i (0, 0) = V i from by simp [List.getD, hin']]
      rw [Addr.add_mid, Addr.add_mid] at this
      simpa [Nat.add_assoc] using this

set_option maxRecDepth 100000 in
theorem lifted (os : Os) (started : os.Started) (H : Type) (enc : TypeId × Value → H) :
    ReturnsInHanded {} Try.checked os 5 .any (Rows.costsPathsSpec.pre6 enc Try.prog Try.f5 Rows.costsPathsRow.domain false) (Rows.costsPathsSpec.post enc Try.prog Try.f5 false true false false) := by
  refine returnsInHanded_of_change_sized (C := Try.checked) own started (by kernel_rfl) Try.func5
    (ChangeSpec.witness6 (enc := enc) (C := Try.checked) false ⟨#[], #[.agg (tabA 0 0 [0, 0, 0, 0, 0, 0, 0, 0, 0, 0, 0, 0, 0, 0, 0, 0, 0, 0, 0, 0, 0, 0, 0, 0]), .slice none 0 0], []⟩ 8 (by kernel_rfl) (by kernel_rfl) (by kernel_rfl) (by kernel_rfl)) ?_
  intro W base args ds gs before hval0 hW hcnd hsz0 _
  have hsz : (DataW.weightsEach Try.prog (Try.f5.params.toList ++ Rows.costsPathsSpec.plain.varTypes Try.prog) (ds ++ gs)).all (· ≤ reachBytes) = true := hsz0
  clear hsz0
  have hval : ∀ (j : Nat) t v, Try.f5.params[j]? = some t → args[j]? = some v → Value.okWide Try.prog W .any base t v := hval0
  have hW' := hW
  obtain ⟨p, q, hA0, hV, rfl, hfz, hnd⟩ := hW
  have hA : DataW.TrodAll enc Try.prog W 0 (fun _ => true) true Try.f5.params.toList args.toList ds p := hA0
  rw [Try.params5] at hA hval hsz
  obtain ⟨v0, vs0, d0, ds0, p0, q0, hargs, rfl, rfl, h0, r0⟩ := trodAll_cons hA
  obtain ⟨v1, vs1, d1, ds1, p1, q1, rfl, rfl, rfl, h1, r1⟩ := trodAll_cons r0
  obtain ⟨rfl, rfl, rfl⟩ := trodAll_nil r1
  obtain rfl : args = #[v0, v1] := by cases args; simp_all
  obtain ⟨rfl, rfl⟩ := trodVars_none hV
  obtain ⟨s, c, l, hl, rfl⟩ := open_tab (hval 0 24 v0 rfl rfl) h0
  obtain ⟨a1, n1, cap1, rfl⟩ := okWide_slice Try.underlying45 (hval 1 45 v1 rfl rfl)
  have k0 := h0
  have lt0 : ∀ x ∈ p0, x.block < W.heap.size := by obtain ⟨m, hm⟩ := k0; exact DataW.trod_lt m _ _ _ hm
  have k1 := h1
  have lt1 : ∀ x ∈ p1, x.block < W.heap.size := by obtain ⟨m, hm⟩ := k1; exact DataW.trod_lt m _ _ _ hm
  clear hA0 hval0
  have walk : Calls Try.prog 5 #[.agg (tabA s c l), .slice a1 n1 cap1] W fun e w' => e = .returned (.bool true) ∧ Below W.heap.size W w' := by
    by_cases hn : n1 = 0
    · subst hn
      exact paths_empty s c l hl a1 cap1 W
    by_cases hmid : 60 < n1 ∧ n1 ≤ 1000
    · exact paths_skip s c l hl a1 n1 cap1 W hmid.1 hmid.2
    rcases open_calls h1 with ⟨e, _⟩ | ⟨elems, rest, rfl, hel, e | ⟨b, off, C, rfl, hC, hat⟩⟩
    · exact absurd e hn
    · exact absurd e hn
    · have hr := sized_slice hsz (j := 1) (t := 45) (e := 48) rfl rfl Try.underlying45
      rw [bytesCall, hel] at hr
      simp only [reachBytes] at hr
      subst hC
      exact paths_main s c l hl b off cap1 C W (by omega) (by omega) (by omega) hat
  refine walk.mono fun e W' ⟨he, bel⟩ => ?_
  subst he
  exact ⟨_, rfl, _, _, _, [], _, [], hW', trodAll_mk1 (shut_bool Try.underlying4 _), (trodAll_cons_mk (Below.trod laidOut (by kernel_rfl) (of_decide_eq_true (by kernel_rfl)) k0 bel lt0) (trodAll_cons_mk (Below.trod laidOut (by kernel_rfl) (of_decide_eq_true (by kernel_rfl)) k1 bel lt1) trodAll_mk0)), rfl, bel.frame _, fun h => by cases h⟩

theorem over : Rows.costsPathsRow.holds Try.pinned (OpenSpec.ofChange Rows.costsPathsSpec) :=
  OpenClaim.holds_of_wide 5 Try.f5 rfl rfl rfl rfl rfl rfl rfl ⟨rfl, rfl, rfl, rfl, rfl⟩ rfl rfl rfl rfl rfl (by kernel_rfl) Try.func5 (by kernel_rfl)
    (of_decide_eq_true (by kernel_rfl)) (by unfold Func.isWrapper; first | (rw [if_pos (by decide +kernel)]; kernel_rfl) | (rw [if_neg (by decide +kernel)]; exact ⟨rfl, rfl⟩))
    (fun os started H enc _ => lifted os started H enc)

theorem proved : Rows.CostsPathsSaid := over
#print axioms proved
end Go.Proofs.Ytgbbidgmhmbehaa.costsPaths
