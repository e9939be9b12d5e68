/- ReadyPlays: the reference's index and find. -/
import Derived.Test.YtbjpaemldnoinaaQa
namespace Go.Proofs.Ytbjpaemldnoinaa
open Go.RowKit
set_option linter.unusedVariables false

/-- The index of the first entry of thread t, counted from k, or -1. -/
def idxE (t : Int) : List EnR → Nat → Int
  | [], _ => -1
  | x :: r, k => if x.t = t then (k : Int) else idxE t r (k + 1)
theorem idxE_hit {t : Int} {l : List EnR} {i : Nat} {x : EnR} (hx : l[i]? = some x) (h : idxE t (l.drop i) i = idxE t l 0) (e : x.t = t) : idxE t l 0 = i := by
  have hi : i < l.length := (List.getElem?_eq_some_iff.1 hx).1
  rw [← h, List.drop_eq_getElem_cons hi, (List.getElem?_eq_some_iff.1 hx).2, idxE, if_pos e]
theorem idxE_miss {t : Int} {l : List EnR} {i : Nat} {x : EnR} (hx : l[i]? = some x) (h : idxE t (l.drop i) i = idxE t l 0) (e : x.t ≠ t) : idxE t (l.drop (i + 1)) (i + 1) = idxE t l 0 := by
  have hi : i < l.length := (List.getElem?_eq_some_iff.1 hx).1
  rw [List.drop_eq_getElem_cons hi, (List.getElem?_eq_some_iff.1 hx).2, idxE, if_neg e] at h
  exact h
set_option maxRecDepth 100000 in
set_option maxHeartbeats 1000000 in
theorem rindex_any {W : World} {lo R : Nat} {l : List EnR} (h : RQ lo R l W) (hl : l.length ≤ 256) (t : Int) : Calls Try.prog 76 #[.pointer (some ⟨R, 0, none⟩), .int .i64 t] W fun e w' => e = .returned (.int .i64 (idxE t l 0)) ∧ W = w' := by
  obtain ⟨v, h⟩ := h
  obtain ⟨a, c, hv⟩ := own_shape h.own
  subst hv
  have c0 : W.cell? ⟨R, 0, none⟩ = some (.slice a l.length c) := h.row.cell 0
  have HO := Lib.hid h.own
  have HL := Lib.hid hl
  clear h
  go_enter Try.func76, Try.ntmps76
  go_wp2
  go_loop [5] (fun vi => ∃ i : Nat, vi = .int .i64 i ∧ Hid (i ≤ l.length ∧ idxE t (l.drop i) i = idxE t l 0)) (fun vi => l.length - (intOf vi).toNat)
  case atStart => exact ⟨0, rfl, Nat.zero_le _, rfl⟩
  case round =>
    obtain ⟨i, rfl, HR⟩ := hrel
    by_cases hi : i < l.length
    · obtain ⟨g, cap, hv, _, hcap, hcells, _⟩ := own_someE HO.out (by omega)
      injection hv with hv
      subst hv
      obtain ⟨x, hx⟩ : ∃ x, l[i]? = some x := ⟨_, List.getElem?_eq_getElem hi⟩
      have d0 := (hcells i x hx).1
      have i0 : (0 : Int) ≤ i := by omega
      have i1 : (i : Int) < l.length := by omega
      have i2 : (i : Int) < 256 := by omega
      have HX := Lib.hid hx
      have HI := Lib.hid hi
      by_cases he : x.t = t
      · have he' : (x.t == t) = true := by simpa using he
        have HE := Lib.hid he
        clear hi hx hcells he hl
        go_wp2
        go_ret
        exact ⟨by rw [idxE_hit HX.out HR.out.2 HE.out] <;> rfl, rfl⟩
      · have he' : (x.t == t) = false := by simpa using he
        have HE := Lib.hid he
        clear hi hx hcells he hl
        go_wp2
        go_round
        case rel => exact ⟨i + 1, rfl, HI.out, idxE_miss HX.out HR.out.2 HE.out⟩
        case measure =>
          have := HI.out
          show l.length - (intOf (Value.int .i64 ((i : Int) + 1))).toNat < l.length - (intOf (Value.int .i64 (i : Int))).toNat
          simp only [intOf]
          omega
    · have hlt : ¬ (i : Int) < l.length := by omega
      clear hi
      go_wp2
      go_ret
      have hi : i = l.length := by have := HR.out.1; omega
      exact ⟨by have e := HR.out.2; rw [hi, List.drop_length] at e; rw [← e] <;> rfl, rfl⟩

/-- What find answers. -/
def fndE (t : Int) (l : List EnR) : Int × Int := if isThr t = true then (if idxE t l 0 < 0 then (0, 22) else (idxE t l 0, 0)) else (0, 34)
theorem idxE_range (t : Int) : ∀ (l : List EnR) (k : Nat), idxE t l k = -1 ∨ (k : Int) ≤ idxE t l k ∧ idxE t l k < k + l.length
  | [], k => .inl rfl
  | x :: r, k => by
    rw [idxE]
    split
    · right; rw [List.length_cons]; omega
    · rcases idxE_range t r (k + 1) with h | ⟨h1, h2⟩
      · exact .inl h
      · right; rw [List.length_cons]; omega
set_option maxRecDepth 100000 in
set_option maxHeartbeats 1000000 in
theorem rfind_any {W : World} {lo R : Nat} {l : List EnR} (h : RQ lo R l W) (hl : l.length ≤ 256) (t : Int) : Calls Try.prog 80 #[.pointer (some ⟨R, 0, none⟩), .int .i64 t] W fun e w' => e = .returned (.tuple #[.int .i64 (fndE t l).1, .int .i64 (fndE t l).2]) ∧ W = w' := by
  have HI := Lib.hid (rindex_any h hl t)
  clear h hl
  cases ht : isThr t
  · have HT : Hid (∀ w, Calls Try.prog 73 #[.int .i64 t] w fun e w' => e = .returned (.bool false) ∧ w = w') := fun w => by rw [← ht]; exact rthread_any t w
    have HV : Hid (fndE t l = (0, 34)) := by show _ = _; rw [fndE, if_neg (by rw [ht]; simp)]
    generalize fndE t l = v at HV ⊢
    clear ht
    go_enter Try.func80, Try.ntmps80
    go_wp2_with (go_at_call 73; refine (HT.out _).mono ?_; rintro e w' ⟨rfl, rfl⟩)
    go_ret2
    exact ⟨by rw [HV.out] <;> rfl, rfl⟩
  · have HT : Hid (∀ w, Calls Try.prog 73 #[.int .i64 t] w fun e w' => e = .returned (.bool true) ∧ w = w') := fun w => by rw [← ht]; exact rthread_any t w
    have HV : Hid (fndE t l = if idxE t l 0 < 0 then (0, 22) else (idxE t l 0, 0)) := by show _ = _; rw [fndE, if_pos ht]
    generalize fndE t l = v at HV ⊢
    generalize idxE t l 0 = z at HV HI
    clear ht
    by_cases hz : z < 0
    · rw [if_pos hz] at HV
      go_enter Try.func80, Try.ntmps80
      go_wp2_with (first
        | (go_at_call 73; refine (HT.out _).mono ?_; rintro e w' ⟨rfl, rfl⟩)
        | (go_at_call 76; refine HI.out.mono ?_; rintro e w' ⟨rfl, rfl⟩))
      go_ret2
      exact ⟨by rw [HV.out] <;> rfl, rfl⟩
    · rw [if_neg hz] at HV
      go_enter Try.func80, Try.ntmps80
      go_wp2_with (first
        | (go_at_call 73; refine (HT.out _).mono ?_; rintro e w' ⟨rfl, rfl⟩)
        | (go_at_call 76; refine HI.out.mono ?_; rintro e w' ⟨rfl, rfl⟩))
      go_ret2
      exact ⟨by rw [HV.out] <;> rfl, rfl⟩
end Go.Proofs.Ytbjpaemldnoinaa
