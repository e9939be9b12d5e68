/- The contracts of Best on any queue, and of Take. -/
import Derived.Test.YtbjpaemldnoinaaYn
namespace Go.Proofs.Ytbjpaemldnoinaa
open Go.RowKit Go.Shelf
set_option linter.unusedVariables false

def bestI (ls : Nat → List Nat) (mk : Nat → Nat) (c : Int) : Value := if isPro c = true then bestV (bestOf mk c.toNat (order ls)) else .tuple #[.int .i64 0, .int .i64 34]
theorem best_any {W : World} {B : Nat} {ls : Nat → List Nat} {mk : Nat → Nat} (h : QP B ls mk W) (c : Int) : Calls Try.prog 33 #[.pointer (some ⟨B, 0, none⟩), .int .i64 c] W fun e w' => e = .returned (bestI ls mk c) ∧ W.grownBy w' none := by
  by_cases hc : isPro c = true
  · obtain ⟨q, h1, h2, rfl⟩ := h
    obtain ⟨h0, h8⟩ := (isPro_iff c).1 hc
    obtain ⟨k, rfl⟩ : ∃ k : Nat, c = k := ⟨c.toNat, by omega⟩
    rw [bestI, if_pos hc]
    exact best_in B k q ls h2 (by omega) W h1
  · rw [bestI, if_neg hc]
    exact best_bad B c W (by simpa using hc)

theorem take_nil (c : Int) (w : World) : Calls Try.prog 43 #[.pointer none, .int .i64 c] w fun e w' => e = .returned (.tuple #[.int .i64 0, .int .i64 35]) ∧ w.grownBy w' none := by
  go_enter Try.func43, Try.ntmps43
  go_wp2_with (go_at_call 33; refine (best_nil c _).mono ?_; rintro e w' ⟨rfl, g1⟩)
  go_ret2
  exact ⟨rfl, by assumption⟩
theorem take_err {W : World} {B : Nat} {ls : Nat → List Nat} {mk : Nat → Nat} (h : QP B ls mk W) (c : Int) (k : Int) (hk : bestI ls mk c = .tuple #[.int .i64 0, .int .i64 k]) (h0 : k ≠ 0) :
    Calls Try.prog 43 #[.pointer (some ⟨B, 0, none⟩), .int .i64 c] W fun e w' => e = .returned (.tuple #[.int .i64 0, .int .i64 k]) ∧ W.grownBy w' none := by
  have HB := Lib.hid (best_any h c)
  have HK := Lib.hid hk
  have hne : (k != 0) = true := by simpa using h0
  clear h hk h0
  go_enter Try.func43, Try.ntmps43
  go_wp2_with (go_at_call 33; refine HB.out.mono ?_; rw [HK.out]; rintro e w' ⟨rfl, g1⟩)
  go_ret2
  exact ⟨rfl, by assumption⟩
theorem best_mem {ls : Nat → List Nat} {mk : Nat → Nat} {c t : Nat} (h : bestOf mk c (order ls) = some t) : okOn mk c t = true ∧ ∃ p, p < 256 ∧ t ∈ ls p := by
  have := List.find?_some h
  exact ⟨this, (order_mem 256).1 (List.mem_of_find?_eq_some h)⟩
theorem take_ok {W : World} {B : Nat} {ls : Nat → List Nat} {mk : Nat → Nat} (h : QP B ls mk W) (c : Int) (hc : isPro c = true) (t : Nat) (ht : bestOf mk c.toNat (order ls) = some t) :
    Calls Try.prog 43 #[.pointer (some ⟨B, 0, none⟩), .int .i64 c] W (QPE (.tuple #[.int .i64 t, .int .i64 0]) B (del ls t) (upd mk t 0) W) := by
  have HQ := Lib.hid h
  have HB := Lib.hid (best_any h c)
  have HV : Hid (bestI ls mk c = .tuple #[.int .i64 t, .int .i64 0]) := by show _ = _; rw [bestI, if_pos hc, ht]; rfl
  obtain ⟨hb, p, hp, hm⟩ := best_mem ht
  have hx : mk t ≠ 0 := fun e => by rw [okOn, e] at hb; simp at hb
  have ht' : t < 256 := by obtain ⟨q, h1, h2, rfl⟩ := h; exact (h2.r.mem p t hm).1
  have HX := Lib.hid hx
  clear h hc ht hb hp hm hx
  go_enter Try.func43, Try.ntmps43
  go_wp2_with (first
    | (go_at_call 33; refine HB.out.mono ?_; rw [HV.out]; rintro e w1 ⟨rfl, g1⟩)
    | (go_at_call 79; refine (drop_any (QP.kept HQ.out (by assumption) (by simp)) t ht' HX.out).mono ?_; rintro e w2 ⟨⟨v, rfl⟩, g2, h2⟩))
  go_ret2
  exact ⟨rfl, grown_trans (grown_none (by assumption)) (by assumption), by assumption⟩
end Go.Proofs.Ytbjpaemldnoinaa
