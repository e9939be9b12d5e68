/- ReadyNil's walk; an Act that came in as an argument. -/
import Derived.Test.YtnnmmkimdknbgabYs
import Derived.Test.YtnnmmkimdknbgabRows
import Derived.ProofKit
import Derived.OpenShut
import Derived.ChangeOld
import Derived.Lib.SmallJoins
namespace Go.Proofs.Ytnnmmkimdknbgab
open Go.ChangeShapes Go.WideShapes Go.ChangeAt Go.RowKit Go.Joins
set_option linter.unusedVariables false

theorem cellsAct : Try.prog.cellsOf 23 = 6 := by kernel_rfl
theorem cellsU8 : Try.prog.cellsOf 5 = 1 := by kernel_rfl
theorem cellsInt : Try.prog.cellsOf 3 = 1 := by kernel_rfl
theorem cellsBool : Try.prog.cellsOf 4 = 1 := by kernel_rfl
theorem open_act {H : Type} {enc : TypeId × Value → H} {w : World} {base b0 : Nat} {spare : Nat → Bool} {held : Bool} {r : Reach} {v : Value} {d : DataW H} {p : List MemPlace}
    (hv : Value.okWide Try.prog w r b0 23 v) (h : DataW.Trod enc Try.prog w base spare held 23 v d p) : ∃ (k : Nat) (t p m n : Int) (f : Bool), v = .agg (actA k t p m n f) := by
  obtain ⟨cs, rfl, hsz⟩ := okWide_struct Try.underlying23 hv
  rw [cellsAct] at hsz
  obtain ⟨fuel, hf⟩ := h
  obtain ⟨xs, n, _, _, hlen, hxs, hfs⟩ := DataW.trod_struct Try.underlying23 hf
  have hxl : xs.length = 6 := hxs
  have e0 : DataW.trod enc Try.prog w base spare held n 5 ((cs.toList.drop 0).take (Try.prog.cellsOf 5)) = xs[0]? := hfs 0 _ rfl
  have e1 : DataW.trod enc Try.prog w base spare held n 3 ((cs.toList.drop 1).take (Try.prog.cellsOf 3)) = xs[1]? := hfs 1 _ rfl
  have e2 : DataW.trod enc Try.prog w base spare held n 3 ((cs.toList.drop 2).take (Try.prog.cellsOf 3)) = xs[2]? := hfs 2 _ rfl
  have e3 : DataW.trod enc Try.prog w base spare held n 3 ((cs.toList.drop 3).take (Try.prog.cellsOf 3)) = xs[3]? := hfs 3 _ rfl
  have e4 : DataW.trod enc Try.prog w base spare held n 3 ((cs.toList.drop 4).take (Try.prog.cellsOf 3)) = xs[4]? := hfs 4 _ rfl
  have e5 : DataW.trod enc Try.prog w base spare held n 4 ((cs.toList.drop 5).take (Try.prog.cellsOf 4)) = xs[5]? := hfs 5 _ rfl
  rw [List.getElem?_eq_getElem (by omega), cellsU8] at e0
  rw [List.getElem?_eq_getElem (by omega), cellsInt] at e1 e2 e3 e4
  rw [List.getElem?_eq_getElem (by omega), cellsBool] at e5
  obtain ⟨z, f0, _, hz⟩ := DataW.trod_int Try.underlying5 e0
  obtain ⟨a1, f1, _, _⟩ := DataW.trod_int Try.underlying3 e1
  obtain ⟨a2, f2, _, _⟩ := DataW.trod_int Try.underlying3 e2
  obtain ⟨a3, f3, _, _⟩ := DataW.trod_int Try.underlying3 e3
  obtain ⟨a4, f4, _, _⟩ := DataW.trod_int Try.underlying3 e4
  obtain ⟨b5, f5, _⟩ := DataW.trod_bool Try.underlying4 e5
  have hz0 : 0 ≤ z := by have e : IntKind.u8.min = 0 := rfl; simp [Lit.wf] at hz; omega
  obtain ⟨k, rfl⟩ : ∃ k : Nat, z = k := ⟨z.toNat, by omega⟩
  obtain ⟨L⟩ := cs
  match L, hsz with
  | [x0, x1, x2, x3, x4, x5], hsz =>
    simp at f0 f1 f2 f3 f4 f5
    exact ⟨k, a1, a2, a3, a4, b5, by rw [f0, f1, f2, f3, f4, f5]; rfl⟩

set_option maxRecDepth 100000 in
set_option maxHeartbeats 1000000 in
theorem nil_walk (d : Nat) (t p m n : Int) (f : Bool) (w : World) : Calls Try.prog 3 #[.agg (actA d t p m n f)] w fun e w' => e = .returned (.bool true) ∧ w.grownBy w' none := by
  have HR := Lib.hid (RowAt.new w 23 (actA d t p m n f))
  have HG := Lib.hid (grown_alloc w (.cells (actA d t p m n f) 23) none)
  have HS : Hid ((Try.prog.info? 23).map (·.size) = some (actA d t p m n f).size) := by show _ = _; unfold actA; kernel_rfl
  go_enter Try.func3, Try.ntmps3
  go_upto_region 1 with (fail)
  generalize World.alloc w _ = W at HR HG ⊢
  generalize w.heap.size = b at HR ⊢
  go_wp2_with (first
    | (refine wpList_load_row rfl 23 (Operand.tmp 1) rfl b rfl 23 (actA d t p m n f) (0, 0) _ HR.out Try.underlying23 rfl HS.out ?_)
    | (go_at_call 4; refine (change_nil d t p m n f _).mono ?_; rintro e W2 ⟨rfl, g2⟩)
    | (go_at_call 5; refine (order_nil _).mono ?_; rintro e w' ⟨rfl, rfl⟩)
    | (go_at_call 6; refine (len_nil _).mono ?_; rintro e w' ⟨rfl, rfl⟩)
    | (go_at_call 7; refine (greatest_nil _).mono ?_; rintro e w' ⟨rfl, rfl⟩)
    | (go_at_call 8; refine (awake_any _).mono ?_; rintro e W3 ⟨rfl, g3⟩))
  go_ret
  exact ⟨rfl, grown_trans (grown_trans HG.out g2) g3⟩
end Go.Proofs.Ytnnmmkimdknbgab
