/- ReadyPlays: the reference's SetMask. -/
import Derived.Test.YtbjpaemldnoinaaQd
import Derived.Laws.OwnMore
namespace Go.Proofs.Ytbjpaemldnoinaa
open Go.RowKit
set_option linter.unusedVariables false

/-- The blocks that a method of the queue may write: its own, its slice's, new ones. -/
def FP (R : Nat) (W : World) (k : Nat) : Prop := k = R ∨ W.heap.size ≤ k ∨ ∃ n c, W.cell? ⟨R, 0, none⟩ = some (.slice (some ⟨k, 0, none⟩) n c)
/-- Answers v, and leaves the list l. -/
def RE (lo R : Nat) (v : Value) (l : List EnR) (W : World) (e : Ending) (w' : World) : Prop := e = .returned v ∧ RQ lo R l w' ∧ Fr (fun k => lo ≤ k) W w' ∧ Fr (FP R W) W w'
theorem RQ.lo_le {lo R : Nat} {l : List EnR} {W : World} (h : RQ lo R l W) : lo ≤ R ∧ R < W.heap.size := by obtain ⟨v, h⟩ := h; exact ⟨h.lo, h.row.lt⟩
theorem fr_two {lo R : Nat} {l l' : List EnR} {W w' : World} (h : RQ lo R l W) (hq : RQ lo R l' w') (hf : Fr (fun k => k = R ∨ W.heap.size ≤ k) W w') : RQ lo R l' w' ∧ Fr (fun k => lo ≤ k) W w' ∧ Fr (FP R W) W w' :=
  ⟨hq, hf.mono fun k hk e => by have := h.lo_le; omega, hf.mono fun k hk e => e.elim .inl (fun e => .inr (.inl e))⟩
theorem encE_set3 : ∀ (l : List EnR) (i : Nat) (x : EnR), i < l.length → encE (l.set i x) = (((encE l).set (i * 3) (.int .i64 x.t)).set (i * 3 + 1) (.int .i64 x.p)).set (i * 3 + 2) (.int .i64 x.m)
  | [], i, x, h => by simp at h
  | y :: r, 0, x, h => rfl
  | y :: r, i + 1, x, h => by
    rw [List.set_cons_succ, encE, encE_set3 r i x (by simpa using h), encE, show (i + 1) * 3 = i * 3 + 1 + 1 + 1 from by omega]
    rfl
theorem set_same {α : Type} {l : List α} {i : Nat} {x : α} (h : l[i]? = some x) : l.set i x = l := by
  have hi : i < l.length := (List.getElem?_eq_some_iff.1 h).1
  refine List.ext_getElem? fun j => ?_
  rw [List.getElem?_set]
  split
  · rename_i e; subst e; first | exact h.symm | (rw [if_pos hi]; exact h.symm)
  · rfl
theorem encE_mask {l : List EnR} {i : Nat} {y : EnR} (h : l[i]? = some y) (m : Int) : (encE l).set (i * 3 + 2) (.int .i64 m) = encE (l.set i { y with m := m }) := by
  obtain ⟨h1, h2, _⟩ := encE_get l i y h
  rw [encE_set3 l i _ (List.getElem?_eq_some_iff.1 h).1]
  show _ = (((encE l).set (i * 3) (.int .i64 y.t)).set (i * 3 + 1) (.int .i64 y.p)).set (i * 3 + 2) (.int .i64 m)
  rw [set_same h1, set_same h2]
/-- What SetMask answers, and leaves. -/
def smE (t m : Int) (l : List EnR) : Int × List EnR := if isMsk m = true then (if (fndE t l).2 = 0 then (match l[(fndE t l).1.toNat]? with | some x => (0, l.set (fndE t l).1.toNat { x with m := m }) | none => (0, l)) else ((fndE t l).2, l)) else (34, l)
set_option maxRecDepth 100000 in
set_option maxHeartbeats 1000000 in
theorem rsetmask_any {W : World} {lo R : Nat} {l : List EnR} (h : RQ lo R l W) (hl : l.length ≤ 256) (t m : Int) : Calls Try.prog 41 #[.pointer (some ⟨R, 0, none⟩), .int .i64 t, .int .i64 m] W (RE lo R (.int .i64 (smE t m l).1) (smE t m l).2 W) := by
  have HH := Lib.hid h
  have HI := Lib.hid (rfind_any h hl t)
  cases hm : isMsk m
  · have HM : Hid (∀ w, Calls Try.prog 75 #[.int .i64 m] w fun e w' => e = .returned (.bool false) ∧ w = w') := fun w => by rw [← hm]; exact rmask_any m w
    have HV : Hid (smE t m l = (34, l)) := by show _ = _; rw [smE, if_neg (by rw [hm]; simp)]
    rw [HV.out]
    clear hm h
    go_enter Try.func41, Try.ntmps41
    go_wp2_with (go_at_call 75; refine (HM.out _).mono ?_; rintro e w' ⟨rfl, rfl⟩)
    go_ret
    exact ⟨rfl, HH.out, Fr.refl _ _, Fr.refl _ _⟩
  have HM : Hid (∀ w, Calls Try.prog 75 #[.int .i64 m] w fun e w' => e = .returned (.bool true) ∧ w = w') := fun w => by rw [← hm]; exact rmask_any m w
  rcases fndE_cases t l with ⟨z, hf, hz⟩ | ⟨i, x, hf, hx, _, _⟩
  · have HV : Hid (smE t m l = (z, l)) := by show _ = _; rw [smE, if_pos hm, hf, if_neg hz]
    rw [HV.out]
    rw [hf] at HI
    have hz' : (z == 0) = false := by simpa using hz
    clear hf hz hm h
    go_enter Try.func41, Try.ntmps41
    go_wp2_with (first
      | (go_at_call 75; refine (HM.out _).mono ?_; rintro e w' ⟨rfl, rfl⟩)
      | (go_at_call 80; refine HI.out.mono ?_; rintro e w' ⟨rfl, rfl⟩))
    go_ret
    exact ⟨rfl, HH.out, Fr.refl _ _, Fr.refl _ _⟩
  · have HV : Hid (smE t m l = (0, l.set i { x with m := m })) := by
      show _ = _
      rw [smE, if_pos hm, hf, if_pos rfl]
      show (match l[((i : Int)).toNat]? with | some x => ((0 : Int), l.set ((i : Int)).toNat { x with m := m }) | none => (0, l)) = _
      rw [Int.toNat_natCast, hx]
    rw [HV.out]
    rw [hf] at HI
    obtain ⟨v, h⟩ := h
    have HQ := Lib.hid h
    have hi : i < l.length := (List.getElem?_eq_some_iff.1 hx).1
    obtain ⟨g, cap, hv, hg, hcap, hcells, hfz⟩ := own_someE h.own (by omega)
    subst hv
    have c0 : W.cell? ⟨R, 0, none⟩ = some (.slice (some ⟨g, 0, none⟩) l.length cap) := h.row.cell 0
    have d0 := (hcells i x hx).2.2
    have f0 := hfz (i * 3 + 2)
    have i0 : (0 : Int) ≤ i := by omega
    have i1 : (i : Int) < l.length := by omega
    have HX := Lib.hid hx
    have HG : Hid (lo ≤ g) := hg
    clear hf hx hcells hi hm h hfz hg
    go_enter Try.func41, Try.ntmps41
    go_wp2_with (first
      | (go_at_call 75; refine (HM.out _).mono ?_; rintro e w' ⟨rfl, rfl⟩)
      | (go_at_call 80; refine HI.out.mono ?_; rintro e w' ⟨rfl, rfl⟩))
    go_ret
    have ho := (HQ.out.own.stored (i * 3 + 2) (.int .i64 m)).1
    rw [encE_mask HX.out] at ho
    have hne : R ≠ g := fun e => HQ.out.ne (by rw [e]; rfl)
    exact ⟨rfl, ⟨_, HQ.out.row.other hne _ _, by rw [List.length_set]; exact ho, HQ.out.ne, HQ.out.lo⟩, Fr.set _ _ _ _ HG.out, Fr.set _ _ _ _ (.inr (.inr ⟨_, _, HQ.out.row.cell 0⟩))⟩
end Go.Proofs.Ytbjpaemldnoinaa
