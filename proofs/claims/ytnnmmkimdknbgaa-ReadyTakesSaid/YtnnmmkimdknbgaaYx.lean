/-
  For every list of calls (at most 60 are carried out) and processor, taking on the processor with all masks set returns the threads in the order of the queue (ReadyTakes returns true and leaves its arguments as they were).
  Conditions: none but those that the given row prints.
-/
import Derived.Test.YtnnmmkimdknbgaaYw
import Derived.Test.YtnnmmkimdknbgaaRows
import Derived.ProofKit
import Derived.OpenShut
import Derived.ChangeOld
import Derived.Below
import Derived.SizedLaws
import Derived.Deep.Slices
import Derived.Deep.Fields
import Derived.Lib.SmallJoins
namespace Go.Proofs.Ytnnmmkimdknbgaa.readyTakes
open Go.ChangeShapes Go.WideShapes Go.ChangeAt Go.RowKit Go.Deep Go.Joins
set_option linter.unusedVariables false

theorem own : ownKnob Try.prog.godebug = none := by kernel_rfl
theorem laidOut : laidOutB Try.prog = true := by kernel_rfl
theorem cellsAct : Try.prog.cellsOf 32 = 6 := by kernel_rfl
theorem cellsU8 : Try.prog.cellsOf 5 = 1 := by kernel_rfl
theorem cellsInt : Try.prog.cellsOf 3 = 1 := by kernel_rfl
theorem cellsBool : Try.prog.cellsOf 4 = 1 := by kernel_rfl
instance : Inhabited ActT := ⟨⟨0, 0, 0, 0, 0, false⟩⟩

/-- A list of Acts that came in: it is empty, or its Acts' cells lie in a row. -/
theorem open_acts {H : Type} {enc : TypeId × Value → H} {w : World} {base : Nat} {spare : Nat → Bool} {held : Bool} {a : Option Addr} {n cap : Nat} {d : DataW H} {p : List MemPlace}
    (h : DataW.Trod enc Try.prog w base spare held 22 (.slice a n cap) d p) : ∃ A : List ActT, A.length = n ∧ ActsIn w a A := by
  obtain ⟨fuel, hf⟩ := h
  rcases open_slice Try.underlying22 hf with ⟨hcs, hx⟩ | ⟨a', len, cap', m, k, D, Pl, hcs, hb, hl, hm, hmm, hx, hi⟩
  · simp [Value.cells] at hcs
    exact ⟨[], hcs.2.1.symm, .inl rfl⟩
  · simp [Value.cells] at hcs
    obtain ⟨rfl, rfl, rfl⟩ := hcs
    by_cases hn : n = 0
    · exact ⟨[], hn.symm, .inl rfl⟩
    have hlm : n ≤ m := by rw [hmm]; split <;> omega
    have hone : ∀ i, i < n → ∃ x : ActT, w.cell? (a'.add (i * 6 + 0)) = some (.int .u8 x.d) ∧ w.cell? (a'.add (i * 6 + 1)) = some (.int .i64 x.t) ∧ w.cell? (a'.add (i * 6 + 2)) = some (.int .i64 x.p) ∧ w.cell? (a'.add (i * 6 + 3)) = some (.int .i64 x.m) ∧ w.cell? (a'.add (i * 6 + 4)) = some (.int .i64 x.n) ∧ w.cell? (a'.add (i * 6 + 5)) = some (.bool x.f) := fun i hin => by
      obtain ⟨cs', hc, ht⟩ := hi i (by omega)
      rw [cellsAct] at hc
      obtain ⟨_, hcl, hat⟩ := World.cells?_some hc
      obtain ⟨xs, q, _, _, _, hxs, hfs⟩ := DataW.trod_struct Try.underlying32 ht
      have hxl : xs.length = 6 := hxs
      have e0 : DataW.trod enc Try.prog w base spare held q 5 ((cs'.drop 0).take (Try.prog.cellsOf 5)) = xs[0]? := hfs 0 _ rfl
      have e1 : DataW.trod enc Try.prog w base spare held q 3 ((cs'.drop 1).take (Try.prog.cellsOf 3)) = xs[1]? := hfs 1 _ rfl
      have e2 : DataW.trod enc Try.prog w base spare held q 3 ((cs'.drop 2).take (Try.prog.cellsOf 3)) = xs[2]? := hfs 2 _ rfl
      have e3 : DataW.trod enc Try.prog w base spare held q 3 ((cs'.drop 3).take (Try.prog.cellsOf 3)) = xs[3]? := hfs 3 _ rfl
      have e4 : DataW.trod enc Try.prog w base spare held q 3 ((cs'.drop 4).take (Try.prog.cellsOf 3)) = xs[4]? := hfs 4 _ rfl
      have e5 : DataW.trod enc Try.prog w base spare held q 4 ((cs'.drop 5).take (Try.prog.cellsOf 4)) = xs[5]? := hfs 5 _ rfl
      rw [List.getElem?_eq_getElem (by omega), cellsU8] at e0
      rw [List.getElem?_eq_getElem (by omega), cellsInt] at e1 e2 e3 e4
      rw [List.getElem?_eq_getElem (by omega), cellsBool] at e5
      obtain ⟨x0, f0, _, _⟩ := DataW.trod_int Try.underlying5 e0
      obtain ⟨x1, f1, _, _⟩ := DataW.trod_int Try.underlying3 e1
      obtain ⟨x2, f2, _, _⟩ := DataW.trod_int Try.underlying3 e2
      obtain ⟨x3, f3, _, _⟩ := DataW.trod_int Try.underlying3 e3
      obtain ⟨x4, f4, _, _⟩ := DataW.trod_int Try.underlying3 e4
      obtain ⟨x5, f5, _⟩ := DataW.trod_bool Try.underlying4 e5
      match cs', hcl with
      | [u0, u1, u2, u3, u4, u5], _ =>
        simp at f0 f1 f2 f3 f4 f5
        subst f0 f1 f2 f3 f4 f5
        have a0 := hat 0 (by omega)
        have a1 := hat 1 (by omega)
        have a2 := hat 2 (by omega)
        have a3 := hat 3 (by omega)
        have a4 := hat 4 (by omega)
        have a5 := hat 5 (by omega)
        rw [Go.Deep.add_add] at a0 a1 a2 a3 a4 a5
        exact ⟨⟨x0, x1, x2, x3, x4, x5⟩, a0, a1, a2, a3, a4, a5⟩
    obtain ⟨V, hV⟩ := choose_lt hone
    obtain ⟨b, off, spot⟩ := a'
    have hs : spot = none := by
      have := World.cell?_spot (hV 0 (by omega)).1
      simpa [Addr.add] using this
    subst hs
    refine ⟨(List.range n).map V, by simp, .inr ⟨b, off, rfl, ?_, fun i x hx => ?_⟩⟩
    · have := World.block_lt_of_cell? w _ (hV 0 (by omega)).1
      simpa [Addr.add] using this
    · have hin : i < n := by
        have := (List.getElem?_eq_some_iff.1 hx).1
        simpa using this
      have hxV : x = V i := by
        rw [List.getElem?_map, List.getElem?_range hin] at hx
        simpa using hx.symm
      subst hxV
      have := hV i hin
      rw [Addr.add_mid, Addr.add_mid, Addr.add_mid, Addr.add_mid, Addr.add_mid, Addr.add_mid] at this
      simpa [Nat.add_assoc] using this

set_option maxRecDepth 100000 in
theorem lifted (os : Os) (started : os.Started) (H : Type) (enc : TypeId × Value → H) :
    ReturnsInHanded {} Try.checked os 4 .any (Rows.readyTakesSpec.pre6 enc Try.prog Try.f4 Rows.readyTakesRow.domain false) (Rows.readyTakesSpec.post enc Try.prog Try.f4 false true false false) := by
  refine returnsInHanded_of_change (C := Try.checked) own started (by kernel_rfl) Try.func4
    (ChangeSpec.witness6 (enc := enc) (C := Try.checked) false ⟨#[], #[.slice none 0 0, .int .u8 0], []⟩ 8 (by kernel_rfl) (by kernel_rfl) (by kernel_rfl) (by kernel_rfl)) ?_
  intro W base args ds gs before hval0 hW hcnd _
  have hval : ∀ (j : Nat) t v, Try.f4.params[j]? = some t → args[j]? = some v → Value.okWide Try.prog W .any base t v := hval0
  have hW' := hW
  obtain ⟨p, q, hA0, hV, rfl, hfz, hnd⟩ := hW
  have hA : DataW.TrodAll enc Try.prog W 0 (fun _ => true) true Try.f4.params.toList args.toList ds p := hA0
  rw [Try.params4] at hA hval
  obtain ⟨v0, vs0, d0, ds0, p0, q0, hargs, rfl, rfl, h0, r0⟩ := trodAll_cons hA
  obtain ⟨v1, vs1, d1, ds1, p1, q1, rfl, rfl, rfl, h1, r1⟩ := trodAll_cons r0
  obtain ⟨rfl, rfl, rfl⟩ := trodAll_nil r1
  obtain rfl : args = #[v0, v1] := by cases args; simp_all
  obtain ⟨rfl, rfl⟩ := trodVars_none hV
  obtain ⟨a0, n0, cap0, rfl⟩ := okWide_slice Try.underlying22 (hval 0 22 v0 rfl rfl)
  obtain ⟨z, rfl, rfl, rfl, w1⟩ := open_int Try.underlying5 (hval 1 5 v1 rfl rfl) h1
  have k0 := h0
  have lt0 : ∀ x ∈ p0, x.block < W.heap.size := by obtain ⟨m, hm⟩ := k0; exact DataW.trod_lt m _ _ _ hm
  clear hA0 hval0
  obtain ⟨A, rfl, hA'⟩ := open_acts h0
  have hz : 0 ≤ z ∧ z < 256 := by
    have e : IntKind.u8.min = 0 := rfl
    have e2 : IntKind.u8.max = 255 := rfl
    have w1' := w1
    simp [Lit.wf] at w1'
    omega
  obtain ⟨c, rfl⟩ : ∃ c : Nat, z = c := ⟨z.toNat, by omega⟩
  have walk : Calls Try.prog 4 #[.slice a0 A.length cap0, .int .u8 c] W fun e w' => e = .returned (.bool true) ∧ W.grownBy w' none := by
    by_cases hn : A.length ≤ 60
    · exact takes_walk a0 cap0 A hn c (by omega) W hA'
    · exact takes_long a0 A.length cap0 (by omega) c W
  refine walk.mono fun e W' ⟨he, hg⟩ => ?_
  have bel := below_grown hg
  subst he
  exact ⟨_, rfl, _, _, _, [], _, [], hW', trodAll_mk1 (shut_bool Try.underlying4 _), (trodAll_cons_mk (Below.trod laidOut (by kernel_rfl) (of_decide_eq_true (by kernel_rfl)) k0 bel lt0) (trodAll_cons_mk (shut_int Try.underlying5 w1) trodAll_mk0)), rfl, bel.frame _, fun h => by cases h⟩

theorem over : Rows.readyTakesRow.holds Try.pinned (OpenSpec.ofChange Rows.readyTakesSpec) :=
  OpenClaim.holds_of_wide 4 Try.f4 rfl rfl rfl rfl rfl rfl rfl ⟨rfl, rfl, rfl, rfl, rfl⟩ rfl rfl rfl rfl rfl (by kernel_rfl) Try.func4 (by kernel_rfl)
    (of_decide_eq_true (by kernel_rfl)) (by unfold Func.isWrapper; first | (rw [if_pos (by decide +kernel)]; kernel_rfl) | (rw [if_neg (by decide +kernel)]; exact ⟨rfl, rfl⟩))
    (fun os started H enc _ => lifted os started H enc)

theorem proved : Rows.ReadyTakesSaid := over
#print axioms proved
end Go.Proofs.Ytnnmmkimdknbgaa.readyTakes
