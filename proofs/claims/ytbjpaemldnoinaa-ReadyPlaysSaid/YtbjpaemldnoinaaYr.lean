/- The contract of awake, the chapter's first example. -/
import Derived.Test.YtbjpaemldnoinaaYq
namespace Go.Proofs.Ytbjpaemldnoinaa
open Go.RowKit Go.Shelf
set_option linter.unusedVariables false

theorem order_any {W : World} {B : Nat} {ls : Nat → List Nat} {mk : Nat → Nat} (h : QP B ls mk W) : Calls Try.prog 13 #[.pointer (some ⟨B, 0, none⟩)] W fun e w' => ∃ v, e = .returned v ∧ SlN w' v (order ls) ∧ W.grownBy w' none := by
  obtain ⟨q, h1, h2, rfl⟩ := h
  refine (order_in B q ls h2 W h1).mono fun e w' ⟨he, ho, hg⟩ => ⟨_, he, SlN.of_owns ho, hg⟩
theorem SlN.kept {W W' : World} {v : Value} {xs : List Nat} (h : SlN W v xs) (hg : W.grownBy W' none) : SlN W' v xs := by
  obtain ⟨p, c, rfl, h⟩ := h
  refine ⟨p, c, rfl, h.imp id fun ⟨g, hp, hc⟩ => ⟨g, hp, fun j x hj => cell_kept (hc j x hj) hg (fun r hr => by cases hr)⟩⟩

/-- The queue that awake made, and what lay before it. -/
def AW (ls : Nat → List Nat) (mk : Nat → Nat) (w W : World) : Prop := QP w.heap.size ls mk W ∧ Below w.heap.size w W
theorem AW.none {ls : Nat → List Nat} {mk : Nat → Nat} {w W W' : World} (h : AW ls mk w W) (hg : W.grownBy W' none) : AW ls mk w W' :=
  ⟨h.1.kept hg (by simp), h.2.grown hg h.2.size (fun k e => by cases e)⟩
theorem AW.own {ls ls' : Nat → List Nat} {mk mk' : Nat → Nat} {w W W' : World} (h : AW ls mk w W) (hg : W.grownBy W' (some w.heap.size)) (hq : QP w.heap.size ls' mk' W') : AW ls' mk' w W' :=
  ⟨hq, h.2.grown hg h.2.size (fun k e => by cases e; exact Nat.le_refl _)⟩
theorem built_eq {ls : Nat → List Nat} {mk : Nat → Nat} {w : World} (a b c : Nat) (W : World) (v : Value) (hs : SlN W v [a, b, c]) (h : AW ls mk w W) :
    Calls Try.prog 12 #[v, .slice (some ⟨W.heap.size, 0, none⟩) 3 3] (W.alloc (.cells #[.int .i64 a, .int .i64 b, .int .i64 c] 3)) fun e W' => e = .returned (.bool true) ∧ AW ls mk w W' := by
  have hn := RowAt.new W 3 #[.int .i64 a, .int .i64 b, .int .i64 c]
  refine (equal_any [a, b, c] [a, b, c] _ v _ (hs.kept (grown_alloc _ _ _)) ⟨_, _, rfl, .inr ⟨W.heap.size, rfl, fun j x hj => ?_⟩⟩ (by simp)).mono fun e W' ⟨he, hg⟩ => ⟨by rw [he]; simp, (h.none (grown_alloc _ _ _)).none hg⟩
  rw [hn.cell j]
  match j, hj with
  | 0, hj => cases hj; rfl
  | 1, hj => cases hj; rfl
  | 2, hj => cases hj; rfl

def mkA : Nat → Nat := upd (upd (upd (fun _ => 0) 1 255) 2 255) 3 2
def lsA : Nat → List Nat := ins (ins (ins noL 1 10 false) 2 10 false) 3 20 false
theorem order_lsA : order lsA = [3, 1, 2] := by decide +kernel
theorem order_lsB : order (rotL lsA 10) = [3, 2, 1] := by decide +kernel
theorem best_lsA : bestI lsA mkA 0 = .tuple #[.int .i64 1, .int .i64 0] := by rw [bestI, if_pos (by decide), order_lsA]; rfl

set_option maxRecDepth 100000 in
set_option maxHeartbeats 2000000 in
theorem awake_any (w : World) : Calls Try.prog 9 #[] w fun e w' => e = .returned (.bool true) ∧ w.grownBy w' none := by
  have HN : Hid (Calls Try.prog 10 #[] w fun e W' => e = .returned (.pointer (some ⟨w.heap.size, 0, none⟩)) ∧ AW noL (fun _ => 0) w W') := (new_any w).mono fun e W' ⟨he, hg, hq⟩ => ⟨he, hq, below_grown hg⟩
  have HA1 : Hid (∀ W, AW noL (fun _ => 0) w W → Calls Try.prog 32 #[.pointer (some ⟨w.heap.size, 0, none⟩), .int .i64 1, .int .i64 10, .int .i64 255, .bool false] W fun e W' => e = .returned (.int .i64 0) ∧ AW (ins noL 1 10 false) (upd (fun _ => 0) 1 255) w W') := fun W h =>
    (add_ok h.1 1 10 255 false (by decide) (by decide) (by decide) (by decide) rfl).mono fun e W' ⟨he, hg, hq⟩ => ⟨he, h.own hg hq⟩
  have HA2 : Hid (∀ W, AW (ins noL 1 10 false) (upd (fun _ => 0) 1 255) w W → Calls Try.prog 32 #[.pointer (some ⟨w.heap.size, 0, none⟩), .int .i64 2, .int .i64 10, .int .i64 255, .bool false] W fun e W' => e = .returned (.int .i64 0) ∧ AW (ins (ins noL 1 10 false) 2 10 false) (upd (upd (fun _ => 0) 1 255) 2 255) w W') := fun W h =>
    (add_ok h.1 2 10 255 false (by decide) (by decide) (by decide) (by decide) rfl).mono fun e W' ⟨he, hg, hq⟩ => ⟨he, h.own hg hq⟩
  have HA3 : Hid (∀ W, AW (ins (ins noL 1 10 false) 2 10 false) (upd (upd (fun _ => 0) 1 255) 2 255) w W → Calls Try.prog 32 #[.pointer (some ⟨w.heap.size, 0, none⟩), .int .i64 3, .int .i64 20, .int .i64 2, .bool false] W fun e W' => e = .returned (.int .i64 0) ∧ AW lsA mkA w W') := fun W h =>
    (add_ok h.1 3 20 2 false (by decide) (by decide) (by decide) (by decide) rfl).mono fun e W' ⟨he, hg, hq⟩ => ⟨he, h.own hg hq⟩
  have HB : Hid (∀ W, AW lsA mkA w W → Calls Try.prog 33 #[.pointer (some ⟨w.heap.size, 0, none⟩), .int .i64 0] W fun e W' => e = .returned (.tuple #[.int .i64 1, .int .i64 0]) ∧ AW lsA mkA w W') := fun W h =>
    (best_any h.1 0).mono fun e W' ⟨he, hg⟩ => ⟨by rw [he, best_lsA], h.none hg⟩
  have HO : Hid (∀ W, AW lsA mkA w W → Calls Try.prog 13 #[.pointer (some ⟨w.heap.size, 0, none⟩)] W fun e W' => ∃ v, e = .returned v ∧ SlN W' v [3, 1, 2] ∧ AW lsA mkA w W') := fun W h =>
    (order_any h.1).mono fun e W' ⟨v, he, hs, hg⟩ => ⟨v, he, by rw [← order_lsA]; exact hs, h.none hg⟩
  have HE : Hid (∀ W v, SlN W v [3, 1, 2] → AW lsA mkA w W → Calls Try.prog 12 #[v, .slice (some ⟨W.heap.size, 0, none⟩) 3 3] (W.alloc (.cells #[.int .i64 3, .int .i64 1, .int .i64 2] 3)) fun e W' => e = .returned (.bool true) ∧ AW lsA mkA w W') := fun W v hs h => built_eq 3 1 2 W v hs h
  have HR : Hid (∀ W, AW lsA mkA w W → Calls Try.prog 34 #[.pointer (some ⟨w.heap.size, 0, none⟩), .int .i64 10] W fun e W' => e = .returned (.int .i64 0) ∧ AW (rotL lsA 10) mkA w W') := fun W h =>
    (rotate_ok h.1 10 (by decide) (by decide)).mono fun e W' ⟨he, hg, hq⟩ => ⟨he, h.own hg hq⟩
  have HO2 : Hid (∀ W, AW (rotL lsA 10) mkA w W → Calls Try.prog 13 #[.pointer (some ⟨w.heap.size, 0, none⟩)] W fun e W' => ∃ v, e = .returned v ∧ SlN W' v [3, 2, 1] ∧ AW (rotL lsA 10) mkA w W') := fun W h =>
    (order_any h.1).mono fun e W' ⟨v, he, hs, hg⟩ => ⟨v, he, by rw [← order_lsB]; exact hs, h.none hg⟩
  have HE2 : Hid (∀ W v, SlN W v [3, 2, 1] → AW (rotL lsA 10) mkA w W → Calls Try.prog 12 #[v, .slice (some ⟨W.heap.size, 0, none⟩) 3 3] (W.alloc (.cells #[.int .i64 3, .int .i64 2, .int .i64 1] 3)) fun e W' => e = .returned (.bool true) ∧ AW (rotL lsA 10) mkA w W') := fun W v hs h => built_eq 3 2 1 W v hs h
  go_enter Try.func9, Try.ntmps9
  go_wp2_with (first
    | (go_at_call 10; refine HN.out.mono ?_; rintro e W1 ⟨rfl, a1⟩)
    | (go_at_call 32; refine (HA1.out _ a1).mono ?_; rintro e W2 ⟨rfl, a2⟩; clear a1)
    | (go_at_call 32; refine (HA2.out _ a2).mono ?_; rintro e W3 ⟨rfl, a3⟩; clear a2)
    | (go_at_call 32; refine (HA3.out _ a3).mono ?_; rintro e W4 ⟨rfl, a4⟩; clear a3)
    | (go_at_call 33; refine (HB.out _ a4).mono ?_; rintro e W5 ⟨rfl, a5⟩; clear a4)
    | (go_at_call 13; refine (HO.out _ a5).mono ?_; rintro e W6 ⟨v6, rfl, s6, a6⟩; clear a5)
    | (go_at_call 12; refine (HE.out _ _ s6 a6).mono ?_; rintro e W7 ⟨rfl, a7⟩; clear a6)
    | (go_at_call 34; refine (HR.out _ a7).mono ?_; rintro e W8 ⟨rfl, a8⟩; clear a7)
    | (go_at_call 13; refine (HO2.out _ a8).mono ?_; rintro e W9 ⟨v9, rfl, s9, a9⟩; clear a8)
    | (go_at_call 12; refine (HE2.out _ _ s9 a9).mono ?_; rintro e W0 ⟨rfl, a0⟩; clear a9))
  go_ret
  exact ⟨rfl, grown_below a0.2⟩
end Go.Proofs.Ytbjpaemldnoinaa
