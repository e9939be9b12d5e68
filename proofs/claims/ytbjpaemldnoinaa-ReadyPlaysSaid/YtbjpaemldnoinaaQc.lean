/- ReadyPlays: the reference's Priority, Greatest. -/
import Derived.Test.YtbjpaemldnoinaaQb
namespace Go.Proofs.Ytbjpaemldnoinaa
open Go.RowKit
set_option linter.unusedVariables false

theorem idxE_at {t : Int} : ∀ {l : List EnR} {k : Nat}, 0 ≤ idxE t l k → ∃ (i : Nat) (x : EnR), idxE t l k = ((k + i : Nat) : Int) ∧ l[i]? = some x ∧ x.t = t
  | [], k, h => by rw [idxE] at h; omega
  | x :: r, k, h => by
    rw [idxE] at h ⊢
    by_cases e : x.t = t
    · rw [if_pos e]; exact ⟨0, x, rfl, rfl, e⟩
    · rw [if_neg e] at h ⊢
      obtain ⟨i, y, h1, h2, h3⟩ := idxE_at h
      exact ⟨i + 1, y, by rw [h1]; omega, by simpa using h2, h3⟩
/-- find answers an error, or the index of an entry of the thread. -/
theorem fndE_cases (t : Int) (l : List EnR) : (∃ z, fndE t l = (0, z) ∧ z ≠ 0) ∨ ∃ (i : Nat) (x : EnR), fndE t l = ((i : Int), 0) ∧ l[i]? = some x ∧ x.t = t ∧ idxE t l 0 = i := by
  rw [fndE]
  split
  · split
    · exact .inl ⟨22, rfl, by decide⟩
    · obtain ⟨i, x, h1, h2, h3⟩ := idxE_at (t := t) (l := l) (k := 0) (by omega)
      rw [Nat.zero_add] at h1
      exact .inr ⟨i, x, by rw [h1], h2, h3, h1⟩
  · exact .inl ⟨34, rfl, by decide⟩
def prE (t : Int) (l : List EnR) : Int × Int := if (fndE t l).2 = 0 then (match l[(fndE t l).1.toNat]? with | some x => (x.p, 0) | none => (0, 0)) else (0, (fndE t l).2)
set_option maxRecDepth 100000 in
set_option maxHeartbeats 1000000 in
theorem rprio_any {W : World} {lo R : Nat} {l : List EnR} (h : RQ lo R l W) (hl : l.length ≤ 256) (t : Int) : Calls Try.prog 47 #[.pointer (some ⟨R, 0, none⟩), .int .i64 t] W fun e w' => e = .returned (.tuple #[.int .i64 (prE t l).1, .int .i64 (prE t l).2]) ∧ W = w' := by
  have HI := Lib.hid (rfind_any h hl t)
  obtain ⟨v, h⟩ := h
  obtain ⟨a, c, hv⟩ := own_shape h.own
  subst hv
  have c0 : W.cell? ⟨R, 0, none⟩ = some (.slice a l.length c) := h.row.cell 0
  have HO := Lib.hid h.own
  clear h
  rcases fndE_cases t l with ⟨z, hf, hz⟩ | ⟨i, x, hf, hx, _, _⟩
  · have HV : Hid (prE t l = (0, z)) := by show _ = _; rw [prE, hf, if_neg hz]
    rw [hf] at HI
    generalize prE t l = v at HV ⊢
    have hz' : (z != 0) = true := by simpa using hz
    clear hf hz
    go_enter Try.func47, Try.ntmps47
    go_wp2_with (go_at_call 80; refine HI.out.mono ?_; rintro e w' ⟨rfl, rfl⟩)
    go_ret2
    exact ⟨by rw [HV.out] <;> rfl, rfl⟩
  · have HV : Hid (prE t l = (x.p, 0)) := by show _ = _; rw [prE, hf, if_pos rfl]; show (match l[((i : Int)).toNat]? with | some x => (x.p, (0 : Int)) | none => (0, 0)) = _; rw [Int.toNat_natCast, hx]
    rw [hf] at HI
    generalize prE t l = v at HV ⊢
    have hi : i < l.length := (List.getElem?_eq_some_iff.1 hx).1
    obtain ⟨g, cap, hv, _, hcap, hcells, _⟩ := own_someE HO.out (by omega)
    injection hv with hv
    subst hv
    have d0 := (hcells i x hx).2.1
    have i0 : (0 : Int) ≤ i := by omega
    have i1 : (i : Int) < l.length := by omega
    clear hf hx hcells hi
    go_enter Try.func47, Try.ntmps47
    go_wp2_with (go_at_call 80; refine HI.out.mono ?_; rintro e w' ⟨rfl, rfl⟩)
    go_ret2
    exact ⟨by rw [HV.out] <;> rfl, rfl⟩
def grE : List EnR → Int
  | [] => -1
  | x :: _ => x.p
set_option maxRecDepth 100000 in
set_option maxHeartbeats 1000000 in
theorem rgreat_any {W : World} {lo R : Nat} {l : List EnR} (h : RQ lo R l W) (hl : l.length ≤ 256) : Calls Try.prog 17 #[.pointer (some ⟨R, 0, none⟩)] W fun e w' => e = .returned (.int .i64 (grE l)) ∧ ∃ n, w' = W.drewN n := by
  obtain ⟨v, h⟩ := h
  obtain ⟨a, c, hv⟩ := own_shape h.own
  subst hv
  have c0 : W.cell? ⟨R, 0, none⟩ = some (.slice a l.length c) := h.row.cell 0
  have HO := Lib.hid h.own
  clear h
  cases l with
  | nil =>
    have c0' : W.cell? ⟨R, 0, none⟩ = some (.slice a 0 c) := c0
    clear c0
    go_enter Try.func17, Try.ntmps17
    go_wp2
    go_ret
    exact ⟨rfl, 0, rfl⟩
  | cons x r =>
    obtain ⟨g, cap, hv, _, hcap, hcells, _⟩ := own_someE HO.out (by simp)
    injection hv with hv
    subst hv
    have d0 := (hcells 0 x rfl).2.1
    have HV : Hid (grE (x :: r) = x.p) := rfl
    generalize grE (x :: r) = v at HV ⊢
    have i1 : (0 : Int) < (x :: r).length := by simp
    generalize (x :: r).length = n at c0 hl i1
    rw [Nat.zero_mul, Nat.zero_add] at d0
    clear hcells hcap HO
    go_enter Try.func17, Try.ntmps17
    go_wp2
    go_ret
    exact ⟨by rw [HV.out] <;> rfl, 0, rfl⟩
end Go.Proofs.Ytbjpaemldnoinaa
