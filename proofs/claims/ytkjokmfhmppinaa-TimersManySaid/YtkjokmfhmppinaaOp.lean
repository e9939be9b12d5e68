/- Timers: slices.SortFunc of at most 12 numbers by a method value. -/
import Derived.Test.YtkjokmfhmppinaaOo
import Derived.Test.YtkjokmfhmppinaaShelf
namespace Go.Proofs.Ytkjokmfhmppinaa
open Go.RowKit Go.Maps
set_option linter.unusedVariables false

set_option maxRecDepth 100000 in
set_option maxHeartbeats 4000000 in
theorem pdq_small {W : World} {B g n cap : Nat} {A0 : Nat → Int} {P : Int → Prop} {cf : Int → Int → Int} (O : Ord3 cf) (hc : CmpAt W B g P cf) (hP : ∀ i, i < n → P (A0 i)) {w : World} {A1 : Nat → Int} (hS : SI W g n cap A0 w A1) (lo hi : Nat) (h1 : lo ≤ hi) (h2 : hi ≤ n) (h3 : n ≤ 65536) (h12 : hi ≤ lo + 12) (lim : Int) :
    Calls Try.prog 64 #[.slice (some ⟨g, 0, none⟩) n cap, .int .i64 (lo : Int), .int .i64 (hi : Int), .int .i64 lim, dueF B] w fun e w' => e = .returned (.tuple #[]) ∧ ∃ A, SI W g n cap A0 w' A ∧ Up cf A lo hi ∧ ∀ k, k < lo ∨ hi ≤ k → A k = A1 k := by
  have HI := Lib.hid (insertion_ok O hc hP hS lo hi h1 h2 h3)
  have l0 : (0 : Int) ≤ lo := by omega
  have l1 : (lo : Int) ≤ hi := by omega
  have l2 : (hi : Int) ≤ 65536 := by omega
  have l4 : (hi : Int) - lo ≤ 12 := by omega
  have l5 : (0 : Int) ≤ (hi : Int) - lo := by omega
  clear hS hc h1 h2 h3 O hP h12
  unfold dueF at HI ⊢
  go_enter Try.func64, Try.ntmps64
  go_wp2
  refine wp_loop_rounds 1 ?_
  rw [rounds_succ]
  go_wp2_with (go_at_call 79; refine HI.out.mono ?_; rintro e w2 ⟨rfl, hI⟩; have HI2 := Lib.hid hI; clear hI)
  (try simp only [Exit.inBlock, Exit.then]); refine bodyPost_ret (results_none rfl _ _ _) rfl ?_
  exact ⟨rfl, HI2.out⟩
theorem len_any (n : Nat) (h : n ≤ 65536) (w : World) : Calls Try.prog 63 #[.int .u64 (n : Int)] w fun e w' => (∃ v, e = .returned (.int .i64 v)) ∧ w' = w :=
  (Try.bits_Len (n : Int) w (by omega) (by omega)).mono fun e w' h => ⟨⟨_, h.1⟩, h.2⟩
set_option maxRecDepth 100000 in
set_option maxHeartbeats 4000000 in
theorem sortfunc_by {W : World} {B g n cap : Nat} {R : World → Prop} (h3 : n ≤ 65536) (hp : ∀ lim, Calls Try.prog 64 #[.slice (some ⟨g, 0, none⟩) n cap, .int .i64 0, .int .i64 (n : Int), .int .i64 lim, dueF B] W fun e w' => e = .returned (.tuple #[]) ∧ R w') :
    Calls Try.prog 59 #[.slice (some ⟨g, 0, none⟩) n cap, dueF B] W fun e w' => e = .returned (.tuple #[]) ∧ R w' := by
  have HI := Lib.hid hp
  have HL := Lib.hid (len_any n h3)
  have l1 : (n : Int) ≤ 65536 := by omega
  have l2 : (0 : Int) ≤ n := by omega
  have l3 : IntKind.u64.wrap (n : Int) = n := by simp [IntKind.wrap, IntKind.bits, IntKind.signed]; omega
  clear h3 hp
  unfold dueF at HI ⊢
  go_enter Try.func59, Try.ntmps59
  go_wp2_with (first
    | (go_at_call 63; refine (HL.out _).mono ?_; rintro e w2 ⟨⟨v, rfl⟩, f2⟩; subst f2)
    | (go_at_call 64; refine (HI.out _).mono ?_; rintro e w3 ⟨rfl, hR⟩; have HR := Lib.hid hR; clear hR))
  go_end0
  exact ⟨rfl, HR.out⟩
theorem sortfunc_small {W : World} {B g n cap : Nat} {A0 : Nat → Int} {P : Int → Prop} {cf : Int → Int → Int} (O : Ord3 cf) (hc : CmpAt W B g P cf) (hP : ∀ i, i < n → P (A0 i)) (hI : IR W g n cap A0) (hA : ∀ i j, i < n → j < n → A0 i = A0 j → i = j) (h12 : n ≤ 12) :
    Calls Try.prog 59 #[.slice (some ⟨g, 0, none⟩) n cap, dueF B] W fun e w' => e = .returned (.tuple #[]) ∧ ∃ A, SI W g n cap A0 w' A ∧ Up cf A 0 n :=
  sortfunc_by (by omega) fun lim => (pdq_small O hc hP ⟨hI, Sm.refl hA, Fr.refl _ _⟩ 0 n (by omega) (by omega) (by omega) (by omega) lim).mono fun e w' ⟨h1, A, h2, h3, _⟩ => ⟨h1, A, h2, h3⟩
set_option maxRecDepth 100000 in
set_option maxHeartbeats 4000000 in
theorem sortfunc_nil (B : Nat) (W : World) : Calls Try.prog 59 #[.slice none 0 0, dueF B] W fun e w' => e = .returned (.tuple #[]) ∧ W = w' := by
  have HL := Lib.hid (len_any 0 (by omega))
  have HI : Hid (∀ w, Calls Try.prog 79 #[.slice none 0 0, .int .i64 0, .int .i64 0, dueF B] w fun e w' => e = .returned (.tuple #[]) ∧ w = w') := by
    intro w
    unfold dueF
    go_enter Try.func79, Try.ntmps79
    go_wp2
    refine wp_loop_rounds 1 ?_
    rw [rounds_succ]
    go_wp2
    go_end0
    exact ⟨rfl, rfl⟩
  have HP : Hid (∀ w lim, Calls Try.prog 64 #[.slice none 0 0, .int .i64 0, .int .i64 0, .int .i64 lim, dueF B] w fun e w' => e = .returned (.tuple #[]) ∧ w = w') := by
    intro w lim
    unfold dueF at HI ⊢
    go_enter Try.func64, Try.ntmps64
    go_wp2
    refine wp_loop_rounds 1 ?_
    rw [rounds_succ]
    go_wp2_with (go_at_call 79; refine (HI.out _).mono ?_; rintro e w2 ⟨rfl, hI⟩; subst hI)
    (try simp only [Exit.inBlock, Exit.then]); refine bodyPost_ret (results_none rfl _ _ _) rfl ?_
    exact ⟨rfl, rfl⟩
  unfold dueF at HP ⊢
  clear HI
  go_enter Try.func59, Try.ntmps59
  go_wp2_with (first
    | (go_at_call 63; refine (HL.out _).mono ?_; rintro e w2 ⟨⟨v, rfl⟩, f2⟩; subst f2)
    | (go_at_call 64; refine (HP.out _ _).mono ?_; rintro e w3 ⟨rfl, hR⟩; subst hR))
  go_end0
  exact ⟨rfl, rfl⟩
end Go.Proofs.Ytkjokmfhmppinaa
