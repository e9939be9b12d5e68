/-
  For every call, a nil scheduler answers as the chapter says, and has no threads (SchedNil returns true and leaves its argument as it was).
  Conditions: none but those that the given row prints.
-/
import Derived.Test.YtjaaljcdaamcjaaGreatDx
import Derived.Test.YtjaaljcdaamcjaaGreatRows
import Derived.ProofKit
import Derived.OpenShut
import Derived.ChangeOld
import Derived.Below
import Derived.SizedLaws
import Derived.Deep.Slices
import Derived.Deep.Fields
import Derived.Lib.SmallJoins
namespace Go.Proofs.YtjaaljcdaamcjaaGreat.schedNil
open Go.ChangeShapes Go.WideShapes Go.ChangeAt Go.RowKit Go.Deep Go.Joins Go.Proofs.YtjaaljcdaamcjaaGreat.Pa
set_option linter.unusedVariables false

theorem own : ownKnob Tryz.prog.godebug = none := by kernel_rfl
theorem laidOut : laidOutB Tryz.prog = true := by kernel_rfl
theorem cellsAct : Tryz.prog.cellsOf 44 = 15 := by kernel_rfl
theorem cellsPar : Tryz.prog.cellsOf 41 = 9 := by kernel_rfl
theorem cellsSrv : Tryz.prog.cellsOf 39 = 4 := by kernel_rfl
theorem cellsU8 : Tryz.prog.cellsOf 5 = 1 := by kernel_rfl
theorem cellsInt : Tryz.prog.cellsOf 3 = 1 := by kernel_rfl
theorem cellsI64 : Tryz.prog.cellsOf 2 = 1 := by kernel_rfl
theorem cellsBool : Tryz.prog.cellsOf 4 = 1 := by kernel_rfl
theorem cellsInts : Tryz.prog.cellsOf 42 = 1 := by kernel_rfl
theorem fr_below {W W' : World} (h : Fr Non W W') : Below W.heap.size W W' := h.toBelow fun _ _ f => f
set_option maxRecDepth 100000 in
/-- A call as it came in. -/
theorem open_act {H : Type} {enc : TypeId × Value → H} {w : World} {base b0 : Nat} {spare : Nat → Bool} {held : Bool} {r : Go.Reach} {v : Value} {d : DataW H} {p : List MemPlace}
    (hv : Value.okWide Tryz.prog w r b0 44 v) (h : DataW.Trod enc Tryz.prog w base spare held 44 v d p) : ∃ (k gp rw th pi p0 p1 p2 p3 : Int) (p4 : Bool) (p5 p6 p7 p8 : Int) (le : Option Addr) (lm lc : Nat), v = .agg #[.int .u8 k, .int .u8 gp, .int .i64 rw, .int .i64 th, .int .i64 pi, .int .i64 p0, .int .i64 p1, .int .i64 p2, .int .i64 p3, .bool p4, .int .i64 p5, .int .i64 p6, .int .i64 p7, .int .i64 p8, .slice le lm lc] ∧ 0 ≤ k ∧ k < 256 := by
  obtain ⟨cs, rfl, hsz⟩ := okWide_struct Tryz.underlying44 hv
  rw [cellsAct] at hsz
  obtain ⟨fuel, hf⟩ := h
  obtain ⟨xs, n, _, _, hlen, hxs, hfs⟩ := DataW.trod_struct Tryz.underlying44 hf
  have hxl : xs.length = 7 := hxs
  have e0 : DataW.trod enc Tryz.prog w base spare held n 5 ((cs.toList.drop 0).take (Tryz.prog.cellsOf 5)) = xs[0]? := hfs 0 _ rfl
  have e1 : DataW.trod enc Tryz.prog w base spare held n 5 ((cs.toList.drop 1).take (Tryz.prog.cellsOf 5)) = xs[1]? := hfs 1 _ rfl
  have e2 : DataW.trod enc Tryz.prog w base spare held n 2 ((cs.toList.drop 2).take (Tryz.prog.cellsOf 2)) = xs[2]? := hfs 2 _ rfl
  have e3 : DataW.trod enc Tryz.prog w base spare held n 3 ((cs.toList.drop 3).take (Tryz.prog.cellsOf 3)) = xs[3]? := hfs 3 _ rfl
  have e4 : DataW.trod enc Tryz.prog w base spare held n 3 ((cs.toList.drop 4).take (Tryz.prog.cellsOf 3)) = xs[4]? := hfs 4 _ rfl
  have e5 : DataW.trod enc Tryz.prog w base spare held n 41 ((cs.toList.drop 5).take (Tryz.prog.cellsOf 41)) = xs[5]? := hfs 5 _ rfl
  have e6 : DataW.trod enc Tryz.prog w base spare held n 42 ((cs.toList.drop 14).take (Tryz.prog.cellsOf 42)) = xs[6]? := hfs 6 _ rfl
  rw [List.getElem?_eq_getElem (by omega), cellsU8] at e0 e1
  rw [List.getElem?_eq_getElem (by omega), cellsI64] at e2
  rw [List.getElem?_eq_getElem (by omega), cellsInt] at e3 e4
  rw [List.getElem?_eq_getElem (by omega), cellsPar] at e5
  rw [List.getElem?_eq_getElem (by omega), cellsInts] at e6
  obtain ⟨ys, n2, _, _, hlen2, hys, hgs⟩ := DataW.trod_struct Tryz.underlying41 e5
  have hyl : ys.length = 6 := hys
  have g0 : DataW.trod enc Tryz.prog w base spare held n2 3 ((((cs.toList.drop 5).take 9).drop 0).take (Tryz.prog.cellsOf 3)) = ys[0]? := hgs 0 _ rfl
  have g1 : DataW.trod enc Tryz.prog w base spare held n2 3 ((((cs.toList.drop 5).take 9).drop 1).take (Tryz.prog.cellsOf 3)) = ys[1]? := hgs 1 _ rfl
  have g2 : DataW.trod enc Tryz.prog w base spare held n2 3 ((((cs.toList.drop 5).take 9).drop 2).take (Tryz.prog.cellsOf 3)) = ys[2]? := hgs 2 _ rfl
  have g3 : DataW.trod enc Tryz.prog w base spare held n2 3 ((((cs.toList.drop 5).take 9).drop 3).take (Tryz.prog.cellsOf 3)) = ys[3]? := hgs 3 _ rfl
  have g4 : DataW.trod enc Tryz.prog w base spare held n2 4 ((((cs.toList.drop 5).take 9).drop 4).take (Tryz.prog.cellsOf 4)) = ys[4]? := hgs 4 _ rfl
  have g5 : DataW.trod enc Tryz.prog w base spare held n2 39 ((((cs.toList.drop 5).take 9).drop 5).take (Tryz.prog.cellsOf 39)) = ys[5]? := hgs 5 _ rfl
  rw [List.getElem?_eq_getElem (by omega), cellsInt] at g0 g1 g2 g3
  rw [List.getElem?_eq_getElem (by omega), cellsBool] at g4
  rw [List.getElem?_eq_getElem (by omega), cellsSrv] at g5
  obtain ⟨zs, n3, _, _, hlen3, hzs, hks⟩ := DataW.trod_struct Tryz.underlying39 g5
  have hzl : zs.length = 4 := hzs
  have k0 : DataW.trod enc Tryz.prog w base spare held n3 2 ((((((cs.toList.drop 5).take 9).drop 5).take 4).drop 0).take (Tryz.prog.cellsOf 2)) = zs[0]? := hks 0 _ rfl
  have k1 : DataW.trod enc Tryz.prog w base spare held n3 2 ((((((cs.toList.drop 5).take 9).drop 5).take 4).drop 1).take (Tryz.prog.cellsOf 2)) = zs[1]? := hks 1 _ rfl
  have k2 : DataW.trod enc Tryz.prog w base spare held n3 3 ((((((cs.toList.drop 5).take 9).drop 5).take 4).drop 2).take (Tryz.prog.cellsOf 3)) = zs[2]? := hks 2 _ rfl
  have k3 : DataW.trod enc Tryz.prog w base spare held n3 3 ((((((cs.toList.drop 5).take 9).drop 5).take 4).drop 3).take (Tryz.prog.cellsOf 3)) = zs[3]? := hks 3 _ rfl
  rw [List.getElem?_eq_getElem (by omega), cellsI64] at k0 k1
  rw [List.getElem?_eq_getElem (by omega), cellsInt] at k2 k3
  obtain ⟨x0, f0, _, hz0⟩ := DataW.trod_int Tryz.underlying5 e0
  obtain ⟨x1, f1, _, _⟩ := DataW.trod_int Tryz.underlying5 e1
  obtain ⟨x2, f2, _, _⟩ := DataW.trod_int Tryz.underlying2 e2
  obtain ⟨x3, f3, _, _⟩ := DataW.trod_int Tryz.underlying3 e3
  obtain ⟨x4, f4, _, _⟩ := DataW.trod_int Tryz.underlying3 e4
  obtain ⟨y0, q0, _, _⟩ := DataW.trod_int Tryz.underlying3 g0
  obtain ⟨y1, q1, _, _⟩ := DataW.trod_int Tryz.underlying3 g1
  obtain ⟨y2, q2, _, _⟩ := DataW.trod_int Tryz.underlying3 g2
  obtain ⟨y3, q3, _, _⟩ := DataW.trod_int Tryz.underlying3 g3
  obtain ⟨y4, q4, _⟩ := DataW.trod_bool Tryz.underlying4 g4
  obtain ⟨y5, q5, _, _⟩ := DataW.trod_int Tryz.underlying2 k0
  obtain ⟨y6, q6, _, _⟩ := DataW.trod_int Tryz.underlying2 k1
  obtain ⟨y7, q7, _, _⟩ := DataW.trod_int Tryz.underlying3 k2
  obtain ⟨y8, q8, _, _⟩ := DataW.trod_int Tryz.underlying3 k3
  have f6 : ∃ (le : Option Addr) (lm lc : Nat), (cs.toList.drop 14).take 1 = [.slice le lm lc] := by
    rcases Go.ChangeShapes.open_ints Tryz.underlying42 Tryz.underlying3 cellsInt e6 with ⟨hcs, _⟩ | ⟨a', len, cap', _, hcs, _⟩
    · exact ⟨none, 0, 0, hcs⟩
    · exact ⟨some a', len, cap', hcs⟩
  obtain ⟨le, lm, lc, f6⟩ := f6
  have em : IntKind.u8.min = 0 := rfl
  have ex : IntKind.u8.max = 255 := rfl
  simp [Lit.wf] at hz0
  obtain ⟨L⟩ := cs
  match L, hsz with
  | [u0, u1, u2, u3, u4, u5, u6, u7, u8, u9, u10, u11, u12, u13, u14], hsz =>
    simp at f0 f1 f2 f3 f4 q0 q1 q2 q3 q4 q5 q6 q7 q8 f6
    exact ⟨x0, x1, x2, x3, x4, y0, y1, y2, y3, y4, y5, y6, y7, y8, le, lm, lc, by rw [f0, f1, f2, f3, f4, q0, q1, q2, q3, q4, q5, q6, q7, q8, f6], by omega, by omega⟩

set_option maxRecDepth 100000 in
theorem lifted (os : Os) (started : os.Started) (H : Type) (enc : TypeId × Value → H) :
    ReturnsInHanded {} Tryz.checked os 7 .any (Rows.schedNilSpec.pre6 enc Tryz.prog Tryz.f7 Rows.schedNilRow.domain false) (Rows.schedNilSpec.post enc Tryz.prog Tryz.f7 false true false false) := by
  refine returnsInHanded_of_change (C := Tryz.checked) own started (by kernel_rfl) Tryz.func7
    (ChangeSpec.witness6 (enc := enc) (C := Tryz.checked) false ⟨#[], #[.agg #[.int .u8 0, .int .u8 0, .int .i64 0, .int .i64 0, .int .i64 0, .int .i64 0, .int .i64 0, .int .i64 0, .int .i64 0, .bool false, .int .i64 0, .int .i64 0, .int .i64 0, .int .i64 0, .slice none 0 0]], []⟩ 8 (by kernel_rfl) (by kernel_rfl) (by kernel_rfl) (by kernel_rfl)) ?_
  intro W base args ds gs before hval0 hW hcnd _
  have hval : ∀ (j : Nat) t v, Tryz.f7.params[j]? = some t → args[j]? = some v → Value.okWide Tryz.prog W .any base t v := hval0
  have hW' := hW
  obtain ⟨p, q, hA0, hV, rfl, hfz, hnd⟩ := hW
  have hA : DataW.TrodAll enc Tryz.prog W 0 (fun _ => true) true Tryz.f7.params.toList args.toList ds p := hA0
  rw [Tryz.params7] at hA hval
  obtain ⟨v0, vs0, d0, ds0, p0, q0, hargs, rfl, rfl, h0, r0⟩ := trodAll_cons hA
  obtain ⟨rfl, rfl, rfl⟩ := trodAll_nil r0
  obtain rfl : args = #[v0] := by cases args; simp_all
  obtain ⟨rfl, rfl⟩ := trodVars_none hV
  obtain ⟨k, gp, rw, th, pi, c0, c1, c2, c3, c4, c5, c6, c7, c8, le, lm, lc, rfl, hk0, hk1⟩ := open_act (hval 0 44 v0 rfl rfl) h0
  have k0 := h0
  have lt0 : ∀ x ∈ p0, x.block < W.heap.size := by obtain ⟨m, hm⟩ := k0; exact DataW.trod_lt m _ _ _ hm
  clear hA0 hval0
  refine (nil_walk k gp rw th pi c0 c1 c2 c3 c4 c5 c6 c7 c8 le lm lc hk0 hk1 W).mono fun e W' ⟨he, hf⟩ => ?_
  have bel := fr_below hf
  subst he
  exact ⟨_, rfl, _, _, _, [], _, [], hW', trodAll_mk1 (shut_bool Tryz.underlying4 _), (trodAll_cons_mk (Below.trod laidOut (by kernel_rfl) (of_decide_eq_true (by kernel_rfl)) k0 bel lt0) trodAll_mk0), rfl, bel.frame _, fun h => by cases h⟩

theorem over : Rows.schedNilRow.holds Tryz.pinned (OpenSpec.ofChange Rows.schedNilSpec) :=
  OpenClaim.holds_of_wide 7 Tryz.f7 rfl rfl rfl rfl rfl rfl rfl ⟨rfl, rfl, rfl, rfl, rfl⟩ rfl rfl rfl rfl rfl (by kernel_rfl) Tryz.func7 (by kernel_rfl)
    (of_decide_eq_true (by kernel_rfl)) (by unfold Func.isWrapper; first | (rw [if_pos (by decide +kernel)]; kernel_rfl) | (rw [if_neg (by decide +kernel)]; exact ⟨rfl, rfl⟩))
    (fun os started H enc _ => lifted os started H enc)

theorem proved : Rows.SchedNilSaid := over
#print axioms proved
end Go.Proofs.YtjaaljcdaamcjaaGreat.schedNil
