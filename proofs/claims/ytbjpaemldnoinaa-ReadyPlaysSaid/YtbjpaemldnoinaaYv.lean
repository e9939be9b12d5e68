/- Add on any numbers; what taking the head of the order does. -/
import Derived.Test.YtbjpaemldnoinaaYr
namespace Go.Proofs.Ytbjpaemldnoinaa
open Go.RowKit Go.Shelf
set_option linter.unusedVariables false

/-- May this thread be added? -/
def addOk (mk : Nat → Nat) (t p m : Int) : Bool := isThr t && isThr p && isMsk m && (mk t.toNat == 0)
def addE (mk : Nat → Nat) (t p m : Int) : Int := if (isThr t && isThr p && isMsk m) = true then (if mk t.toNat = 0 then 0 else 10) else 34
def addL (ls : Nat → List Nat) (mk : Nat → Nat) (t p m : Int) (front : Bool) : Nat → List Nat := if addOk mk t p m = true then ins ls t.toNat p.toNat front else ls
def addM (mk : Nat → Nat) (t p m : Int) : Nat → Nat := if addOk mk t p m = true then upd mk t.toNat m.toNat else mk
theorem qadd_any {W : World} {B : Nat} {ls : Nat → List Nat} {mk : Nat → Nat} (h : QP B ls mk W) (t p m : Int) (front : Bool) :
    Calls Try.prog 32 #[.pointer (some ⟨B, 0, none⟩), .int .i64 t, .int .i64 p, .int .i64 m, .bool front] W (QPE (.int .i64 (addE mk t p m)) B (addL ls mk t p m front) (addM mk t p m) W) := by
  by_cases hv : isThr t = true ∧ isThr p = true ∧ isMsk m = true
  · obtain ⟨h1, h2, h3⟩ := hv
    obtain ⟨a0, a1⟩ := (isThr_iff t).1 h1
    obtain ⟨b0, b1⟩ := (isThr_iff p).1 h2
    obtain ⟨c0, c1⟩ := (isMsk_iff m).1 h3
    obtain ⟨t, rfl⟩ : ∃ k : Nat, t = k := ⟨t.toNat, by omega⟩
    obtain ⟨p, rfl⟩ : ∃ k : Nat, p = k := ⟨p.toNat, by omega⟩
    obtain ⟨m, rfl⟩ : ∃ k : Nat, m = k := ⟨m.toNat, by omega⟩
    by_cases hx : mk t = 0
    · have e1 : addOk mk t p m = true := by simp [addOk, h1, h2, h3, hx]
      have e2 : addE mk t p m = 0 := by simp [addE, h1, h2, h3, hx]
      have e3 : addL ls mk t p m front = ins ls t p front := by rw [addL, if_pos e1]; rfl
      have e4 : addM mk t p m = upd mk t m := by rw [addM, if_pos e1]; rfl
      rw [e2, e3, e4]
      exact add_ok h t p m front (by omega) (by omega) (by omega) (by omega) hx
    · have e1 : addOk mk t p m = false := by simp [addOk, hx]
      have e2 : addE mk t p m = 10 := by simp [addE, h1, h2, h3, hx]
      have e3 : addL ls mk t p m front = ls := by rw [addL, e1]; rfl
      have e4 : addM mk t p m = mk := by rw [addM, e1]; rfl
      rw [e2, e3, e4]
      refine (add_exist h t p m front (by omega) (by omega) (by omega) (by omega) hx).mono fun e w' ⟨he, hw⟩ => ?_
      subst hw
      exact ⟨he, grown_refl _ _, h⟩
  · have e0 : (isThr t && isThr p && isMsk m) = false := by
      cases h1 : isThr t <;> cases h2 : isThr p <;> cases h3 : isMsk m <;> simp_all
    have e1 : addOk mk t p m = false := by rw [addOk, e0]; rfl
    have e2 : addE mk t p m = 34 := by rw [addE, e0]; rfl
    have e3 : addL ls mk t p m front = ls := by rw [addL, e1]; rfl
    have e4 : addM mk t p m = mk := by rw [addM, e1]; rfl
    rw [e2, e3, e4]
    refine (add_bad t p m front hv).mono fun e w' ⟨he, hw⟩ => ?_
    subst hw
    exact ⟨he, grown_refl _ _, h⟩

theorem del_same' {ls : Nat → List Nat} {t i : Nat} (h : t ∉ ls i) : del ls t i = ls i := List.erase_of_not_mem h
theorem orderN_del {ls : Nat → List Nat} {t p : Nat} (ho : ∀ i, t ∈ ls i → i = p) : ∀ n, orderN n (del ls t) = (orderN n ls).erase t
  | 0 => rfl
  | n + 1 => by
    rw [orderN, orderN]
    by_cases hm : t ∈ ls n
    · rw [List.erase_append_left _ hm]
      have hp := ho n hm
      rw [orderN_congr n (fun i hi => del_same' fun h => by have := ho i h; omega)]
      rfl
    · rw [List.erase_append_right _ hm, orderN_del ho n, del_same' hm]
theorem order_tail {q : QS} {ls : Nat → List Nat} (h : QInv q ls) {t : Nat} {r : List Nat} (ho : order ls = t :: r) : order (del ls t) = r := by
  obtain ⟨p, _, hm⟩ := (order_mem (ls := ls) (t := t) 256).1 (show t ∈ order ls by rw [ho]; simp)
  have := orderN_del (h.only hm) 256
  show orderN 256 _ = _
  rw [this, show orderN 256 ls = t :: r from ho, List.erase_cons_head]
/-- The first thread's priority is the greatest. -/
theorem top_head {ls : Nat → List Nat} {t : Nat} {r : List Nat} (ho : order ls = t :: r) : ∃ p : Nat, topN 256 ls = p ∧ p < 256 ∧ t ∈ ls p := by
  rcases topN_or ls 256 with h | ⟨p, h⟩
  · rw [order, topN_none h] at ho; cases ho
  · obtain ⟨h1, h2, h3⟩ := topN_some h
    refine ⟨p, h, h1, ?_⟩
    cases hl : ls p with
    | nil => exact absurd hl h2
    | cons a b =>
      rw [order, h3, hl] at ho
      rw [show t = a from by injection ho with h _; exact h.symm]; simp
theorem topN_del {ls : Nat → List Nat} (t : Nat) : ∀ n, topN n (del ls t) ≤ topN n ls
  | 0 => by rw [topN, topN]; exact Int.le_refl _
  | n + 1 => by
    have ih := topN_del (ls := ls) t n
    rw [topN, topN]
    by_cases h : ls n = []
    · rw [if_pos h, if_pos (show del ls t n = [] by rw [del, h]; rfl)]; exact ih
    · rw [if_neg h]
      split
      · rcases topN_or (del ls t) n with h' | ⟨p, h'⟩
        · omega
        · have := (topN_some h').1; omega
      · exact Int.le_refl _
theorem best_head {mk : Nat → Nat} {c t : Nat} {l : List Nat} (hc : c < 8) (h : mk t = 255) : bestOf mk c (t :: l) = some t := by
  have e : okOn mk c t = true := by
    rw [okOn, h]
    have : ∀ c, c < 8 → (255 / 2 ^ c % 2 == 1) = true := by decide
    exact this c hc
  rw [bestOf, List.find?_cons_of_pos e]
end Go.Proofs.Ytbjpaemldnoinaa
