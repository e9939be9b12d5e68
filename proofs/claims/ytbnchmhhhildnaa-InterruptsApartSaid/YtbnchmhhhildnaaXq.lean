/- Interrupts: Cancel, wake, isHandler; the methods of a nil pointer. -/
import Derived.Test.YtbnchmhhhildnaaXp
namespace Go.Proofs.Ytbnchmhhhildnaa
open Go.RowKit Go.Maps
set_option linter.unusedVariables false

theorem wpList_look_g {ops : Array Oper} {rest : List Oper} {o : Oper} {a : Act} {w : World} {Q : Exit → Act → World → Prop} (hgd : Region.wanted o (yielded ops a.tmps) = true) (m x : Operand) (t : TypeId) (c : Bool) (hop : o.op = Op.lookup t m x c)
    (mv xv : Value) (hm : a.eval m = mv) (hx : a.eval x = xv) (r : Value) (hr : (Instr.lookup t mv xv c).run Try.prog w = .ok r w) (hK : wpList Try.prog ops Q rest (a.put o.dst r) w) : wpList Try.prog ops Q (o :: rest) a w := by
  rw [wpList, if_pos hgd]
  refine .inl ?_
  unfold Oper.wp
  simp [execOp, hop, hm, hx, hr, Result.andThen]
  exact hK
set_option maxRecDepth 100000 in
theorem cancel_nil (x : Int) (W : World) : Calls Try.prog 27 #[.pointer none, .int .i64 x] W fun e w' => e = .returned (.bool false) ∧ W = w' := by
  go_enter Try.func27, Try.ntmps27
  go_wp2
  go_ret
  exact ⟨rfl, rfl⟩
noncomputable def setTh (s : IS) (x v : Int) : IS := { s with th := fun k => upd s.th x v k }
set_option maxRecDepth 100000 in
theorem cancel_no {W : World} {O : Nat → Prop} {B : Nat} {y : LY} {s : IS} (h : CM W O B y s) {x : Int} (hx : isW x) (ht : s.th x ≠ 1) : Calls Try.prog 27 #[.pointer (some ⟨B, 0, none⟩), .int .i64 x] W fun e w' => e = .returned (.bool false) ∧ W = w' := by
  have c3 : W.cell? ⟨B, 3, none⟩ = some (.map (some y.t)) := h.row.cell 3
  have hl := h.mt.look (k := x) hx
  generalize hv : s.th x = v at hl ht
  have HL : Hid ((Instr.lookup 60 (.map (some y.t)) (.int .i64 x) false).run Try.prog W = .ok (.int .i64 v) W) := hl
  have hne : (v != 1) = true := by simpa using ht
  clear h hl ht hv
  go_enter Try.func27, Try.ntmps27
  go_wp2_with (at_lookup; refine wpList_look_g rfl _ _ _ false rfl _ _ rfl rfl _ HL.out ?_)
  go_ret
  exact ⟨rfl, rfl⟩
set_option maxRecDepth 100000 in
theorem cancel_yes {W : World} {O : Nat → Prop} {B : Nat} {y : LY} {s : IS} (h : CM W O B y s) {x : Int} (hx : isW x) (ht : s.th x = 1) : Calls Try.prog 27 #[.pointer (some ⟨B, 0, none⟩), .int .i64 x] W fun e w' => e = .returned (.bool true) ∧ CM w' O B y (setTh s x 0) ∧ Fr (fun k => k = y.t) W w' := by
  have c3 : W.cell? ⟨B, 3, none⟩ = some (.map (some y.t)) := h.row.cell 3
  have hl := h.mt.look (k := x) hx
  rw [ht] at hl
  have HL : Hid ((Instr.lookup 60 (.map (some y.t)) (.int .i64 x) false).run Try.prog W = .ok (.int .i64 1) W) := hl
  obtain ⟨W7, g1, g2, g3⟩ := h.mt.drop (k := x) hx 0
  have HD : Hid (∀ ty, (Builtin.delete_ #[60, 3] ty #[.map (some y.t), .int .i64 x]).run Try.prog W = .ok (.tuple #[]) W7) := fun ty => g1
  have HM : Hid (CM W7 O B y (setTh s x 0)) := h.setT g3 g2
  have HF := Lib.hid g3
  clear h hl ht g1 g2 g3
  go_enter Try.func27, Try.ntmps27
  go_wp2_with (first
    | (at_lookup; refine wpList_look_g rfl _ _ _ false rfl _ _ rfl rfl _ HL.out ?_)
    | (at_delete; refine wpList_bi2 rfl _ _ _ _ rfl _ _ rfl rfl _ HD.out ?_))
  go_ret
  exact ⟨rfl, HM.out, HF.out⟩
theorem handler_any (t : Tm) (W : World) : Calls Try.prog 58 #[tmE t] W fun e w' => e = .returned (.bool (t.k == 0)) ∧ Fr No W w' := by
  have HF : Hid (Fr No W (W.alloc (.cells (tcs t) 87))) := Fr.alloc _ _ _
  unfold tcs at HF
  unfold tmE
  go_enter Try.func58, Try.ntmps58
  go_wp2
  go_ret
  exact ⟨rfl, HF.out⟩
/-- What a delivery's event makes of the threads, and whether one becomes ready. -/
noncomputable def wkT (th : Int → Int) (k c : Int) : Int → Int := if k = 4 then (if th c = 1 then fun x => upd th c 0 x else fun x => upd th c 2 x) else th
def wkB (th : Int → Int) (k c : Int) : Bool := k == 4 && th c == 1
set_option maxRecDepth 100000 in
set_option maxHeartbeats 1000000 in
theorem wake_ok {W : World} {O : Nat → Prop} {B : Nat} {y : LY} {s : IS} (h : CM W O B y s) {k c p d v : Int} (hc : k = 4 → isW c) : Calls Try.prog 59 #[.pointer (some ⟨B, 0, none⟩), evV k c p d v] W fun e w' => e = .returned (.bool (wkB s.th k c)) ∧ CM w' O B y { s with th := wkT s.th k c } ∧ Fr (fun j => j = y.t) W w' := by
  have HFN : Hid (Fr No W (W.alloc (.cells #[.int .i64 k, .int .i64 c, .int .i64 p, .int .i64 d, .int .i64 v] 32))) := Fr.alloc _ _ _
  have HE := Lib.hid (RowAt.new W 32 #[.int .i64 k, .int .i64 c, .int .i64 p, .int .i64 d, .int .i64 v])
  have HM := Lib.hid (h.no HFN.out)
  have HTOP := Lib.hid h.top
  unfold evV
  by_cases h4 : k = 4
  · have hw := hc h4
    subst h4
    by_cases h1 : s.th c = 1
    · have HV : Hid (wkB s.th 4 c = true ∧ wkT s.th 4 c = fun x => upd s.th c 0 x) := ⟨by simp [wkB, h1], by simp [wkT, h1]⟩
      have HC := Lib.hid (cancel_yes HM.out hw h1)
      clear h hc h1 hw
      go_enter Try.func59, Try.ntmps59
      go_wp2_with (go_at_call 27; refine HC.out.mono ?_; rintro e w2 ⟨rfl, q1, q2⟩; have Q1 := Lib.hid q1; have Q2 := Lib.hid q2; clear q1 q2)
      go_ret
      refine ⟨by rw [HV.out.1]; rfl, ?_, HFN.out.any.trans Q2.out⟩
      rw [HV.out.2]; exact Q1.out
    · have HV : Hid (wkB s.th 4 c = false ∧ wkT s.th 4 c = fun x => upd s.th c 2 x) := ⟨by simp [wkB, h1], by simp [wkT, h1]⟩
      have HC := Lib.hid (cancel_no HM.out hw h1)
      obtain ⟨W7, g1, g2, g3⟩ := (HM.out.no (Fr.drew No _)).mt.put (k := c) hw 2
      have HM7 : Hid (CM W7 O B y (setTh s c 2)) := (HM.out.no (Fr.drew No _)).setT g3 g2
      have HF7 : Hid (Fr (fun j => j = y.t) W W7) := (HFN.out.trans (Fr.drew _ _)).any.trans g3
      have HX7 := Lib.hid ((HE.out.fr (Fr.drew No _) id).fr g3 (by have := HTOP.out _ h.ot; show ¬ W.heap.size = y.t; omega))
      have m0 : (Instr.mapUpdate 60 (.map (some y.t)) (.int .i64 c) (.int .i64 2)).run Try.prog (World.drew (W.alloc (.cells #[.int .i64 4, .int .i64 c, .int .i64 p, .int .i64 d, .int .i64 v] 32))) = .ok () W7 := g1
      clear h hc h1 hw g1 g2 g3
      go_enter Try.func59, Try.ntmps59
      go_upto_region 1 with (fail)
      generalize World.alloc W _ = W1 at HFN HE HM HC m0 ⊢
      generalize W.heap.size = E at HE HX7 ⊢
      have e0 : W1.cell? ⟨E, 0, none⟩ = some (.int .i64 4) := HE.out.cell 0
      have e1 : W1.cell? ⟨E, 1, none⟩ = some (.int .i64 c) := HE.out.cell 1
      go_upto_region 5 with (go_at_call 27; refine HC.out.mono ?_; rintro e w2 ⟨rfl, q1⟩; subst q1)
      have c3 : W1.cell? ⟨B, 3, none⟩ = some (.map (some y.t)) := HM.out.row.cell 3
      have HK7 : Hid (W7.cell? ⟨B, 3, none⟩ = some (.map (some y.t)) ∧ W7.cell? ⟨E, 1, none⟩ = some (.int .i64 c)) := ⟨HM7.out.row.cell 3, HX7.out.cell 1⟩
      go_region_held3 (fun w' => w'.cell? ⟨B, 3, none⟩ = some (.map (some y.t)) ∧ w'.cell? ⟨E, 1, none⟩ = some (.int .i64 c))
        (first | (exact ⟨c3, e1⟩) | (exact HK7.out))
        (fail)
      all_goals (
        clear c3 e0 e1 m0
        go_wp2
        go_ret
        refine ⟨by rw [HV.out.1]; rfl, ?_, HF7.out⟩
        rw [HV.out.2]; exact HM7.out)
  · have HV : Hid (wkB s.th k c = false ∧ wkT s.th k c = s.th) := ⟨by simp [wkB, h4], by simp [wkT, h4]⟩
    have hne : (k != 4) = true := by simpa using h4
    clear h hc h4
    go_enter Try.func59, Try.ntmps59
    go_wp2
    go_ret
    refine ⟨by rw [HV.out.1]; rfl, ?_, HFN.out.any⟩
    rw [HV.out.2]; exact HM.out
end Go.Proofs.Ytbnchmhhhildnaa
