/- Timers: List. -/
import Derived.Test.YtkjokmfhmppinaaPd
import Derived.Test.YtkjokmfhmppinaaShelf
import Derived.Shelf.SlIterI.Sorted
import Derived.Ground.GgzProg
namespace Go.Proofs
open Go.RowKit Go.Maps Go.Sort Go.Shelf
shelf_lay_g SlLaysZI.n7 Ggz 7 at Try 39 as Try.keysA
shelf_lay_g SlLaysZI.n6 Ggz 6 at Try 38 as Try.sortedA
end Go.Proofs
namespace Go.Proofs.Ytkjokmfhmppinaa
open Go.RowKit Go.Maps Go.Sort Go.Shelf
set_option linter.unusedVariables false

/-- slices.Sort's two contracts, at the fence that asks nothing. -/
theorem sortsA (m : Nat) : AnyZI.SortsIn Try.prog Try.sortedA_ren Fence.wide m :=
  ⟨fun blk off cap ss W hH hblk hsz => callsIn_wide.2 (Try.slices_Sort_int blk off cap ss W hH hblk hsz),
   fun p cap W => callsIn_wide.2 (Try.slices_Sort_int_none p cap W)⟩
set_option maxRecDepth 100000 in
set_option maxHeartbeats 2000000 in
theorem list_keys {W : World} {B b : Nat} {l : TS} {c : Int} (h : TQ W B b l c) : Calls Try.prog 16 #[.pointer (some ⟨B, 0, none⟩)] W fun e w' => ∃ (v : Value) (ss : List Int), e = .returned v ∧ ss.Perm (intKeys (Dof l)) ∧
      w'.ownsRow W.heap.size 3 1 v ss.length ((ss.mergeSort (fun x y => decide (x ≤ y))).map encZ) ∧ (v = .slice none 0 0 ↔ ss = []) ∧ Fr No W w' := by
  have c0 : W.cell? ⟨B, 0, none⟩ = some (.map (some b)) := h.row.cell 0
  have hseq : SeqGives Fence.wide 2 Try.prog 57 #[.pointer (some ⟨W.heap.size, 0, none⟩)] encZ (fun ss => ss.Perm (intKeys (Dof l))) (Maps.size (Dof l)) (W.alloc (.cells #[.map (some b)] 65)) :=
    AnyZI.keys_gives (ρ := Try.keysA_ren) { Try.keysA with } Fence.wide _ trivial rfl (by omega) W.heap.size b l.length (Dof l) _ (by simp) (by simp) (h.map.fr (Fr.alloc No _ _) id)
  have hsz : Maps.size (Dof l) ≤ 1000 := by rw [dsize]; exact h.len
  have cK : ∀ mb W, Calls Try.prog 39 #[.map mb] W fun e w' => e = .returned (.func (.func 57) #[] #[.pointer (some ⟨W.heap.size, 0, none⟩)]) ∧ w' = W.alloc (.cells #[.map mb] 65) := fun mb W => (callsIn_wide (n := 5)).1 (AnyZI.keys_in Try.keysA Fence.wide 5 trivial rfl mb W)
  have cS0 := AnyZI.sorted_in Try.sortedA Fence.wide 5 trivial trivial trivial trivial rfl (by omega) (sortsA _) (enters_of Try.func56 (by kernel_rfl) rfl) 57 #[.pointer (some ⟨W.heap.size, 0, none⟩)] trivial (enters_of Try.func57 (by kernel_rfl) rfl) _ _ (show Maps.size (Dof l) ≤ maxLen by unfold maxLen; omega) (by omega) _ hseq
  change CallsIn _ _ Try.prog 38 _ _ _ at cS0
  have HS := Lib.hid ((callsIn_wide (n := 5)).1 cS0)
  have HQ := Lib.hid h
  clear cS0 hseq hsz h
  go_enter Try.func16, Try.ntmps16
  go_wp2_with (first
    | (go_at_call 34; refine (ismade_ok HQ.out).mono ?_; rintro e w2 ⟨rfl, f2⟩; subst f2)
    | (go_at_call 39; refine (cK _ _).mono ?_; rintro e w3 ⟨rfl, f3⟩; subst f3)
    | (go_at_call 38; refine HS.out.mono ?_; rintro e w4 ⟨v, ss, rfl, h1, h2, h3, h4⟩))
  go_ret
  refine ⟨v, ss, rfl, h1, own_base h2 (by simp), h3, (Fr.alloc No W _).trans (fr_of_below h4)⟩
/-- List of no timers. -/
theorem list_none {W : World} {B b : Nat} {c : Int} (h : TQ W B b [] c) : Calls Try.prog 16 #[.pointer (some ⟨B, 0, none⟩)] W fun e w' => e = .returned (.slice none 0 0) ∧ Fr No W w' :=
  (list_keys h).mono fun e w' ⟨v, ss, he, h1, _, h3, f⟩ => by
    have : ss = [] := List.perm_nil.1 h1
    rw [h3.2 this] at he
    exact ⟨he, f⟩
end Go.Proofs.Ytkjokmfhmppinaa
