/- The contracts of SetPriority, Rotate, Priority, Greatest, Len, New. -/
import Derived.Test.YtjaaljcdaamcjaaGreatYj
import Derived.Laws.Tables
namespace Go.Proofs.YtjaaljcdaamcjaaGreat.Rd
open Go.RowKit
set_option linter.unusedVariables false

/-! SetPriority -/
theorem chk_zero {mk : Nat → Nat} {t : Nat} (ht : t < 256) (hx : mk t ≠ 0) : chkM mk t true = 0 := by simp [chkM, (isThr_iff (t : Int)).2 ⟨by omega, by omega⟩, hx]
theorem QInv.rot {q : QS} {ls : Nat → List Nat} (h : QInv q ls) {p : Nat} (he : ls p ≠ []) : QInv (rotQ q p) (rotL ls p) := by
  have hmem : ∀ i x, x ∈ rotL ls p i ↔ x ∈ ls i := fun i x => by
    by_cases e : i = p
    · subst e
      cases hl : ls i with
      | nil => simp [rotL, hl]
      | cons a r => simp [rotL, hl, or_comm]
    · simp [rotL, e]
  refine ⟨h.r.rot he, fun x hx => ?_, h.maskl, ?_⟩
  · rw [show (rotQ q p).mask x = q.mask x from rfl, h.mask0 x hx]
    exact ⟨fun ⟨i, hi⟩ => ⟨i, (hmem i x).2 hi⟩, fun ⟨i, hi⟩ => ⟨i, (hmem i x).1 hi⟩⟩
  · have := orderN_len (ls := ls) (ms := rotL ls p) (p := p) (k := 0) (by cases hl : ls p with | nil => simp [rotL, hl] | cons a r => simp [rotL, hl]) (fun i e => by simp [rotL, e]) 256
    have h2 := h.count
    show q.count = (orderN 256 _).length
    rw [this, h2]; simp [order]
/-- The greatest priority below n whose list is not empty, or -1. -/
def topN : Nat → (Nat → List Nat) → Int
  | 0, _ => -1
  | n + 1, ls => if ls n = [] then topN n ls else n
theorem top_below {q : QS} {ls : Nat → List Nat} (h : RInv q ls) : ∀ n, n ≤ 256 → belowV q.filled n = topN n ls
  | 0, _ => rfl
  | n + 1, hn => by
    rw [belowV, topN, h.bit n (by omega), top_below h n (by omega)]
    by_cases e : ls n = []
    · simp [e]
    · simp [e]
def q0 : QS := ⟨fun _ => 0, fun _ => 0, fun _ => 0, fun _ => 0, fun _ => 0, fun _ => 0, 0⟩
def noL : Nat → List Nat := fun _ => []
theorem order_no : ∀ n, orderN n noL = []
  | 0 => rfl
  | n + 1 => by rw [orderN, order_no n]; rfl
theorem q0_inv : QInv q0 noL :=
  ⟨⟨fun _ => List.nodup_nil, fun _ _ h => by simp [noL] at h, fun p _ => by simp [q0, noL], fun _ => by show 0 < 2 ^ 64; decide, fun _ _ _ h => by simp [noL] at h, fun _ => trivial⟩, fun _ _ => by simp [q0, noL], fun _ => by show 0 < 256; decide, by rw [order, order_no]; rfl⟩
theorem wpList_build_at {P : Program} {ops : Array Oper} {rest : List Oper} {o : Oper} {a : Act} {w : World} {Q : Exit → Act → World → Prop} (hgd : o.guard = none) (t : TypeId) (parts : Array (Nat × Operand)) (ho : o.op = .build t parts) (cells : Array Value)
    (hf : P.built t (parts.map fun (i, x) => (i, a.eval x)).toList = some cells) (h : wpList P ops Q rest (a.put o.dst (.agg cells)) w) : wpList P ops Q (o :: rest) a w :=
  wpList_plain hgd fun _ hK => wp_build t parts ho (by rw [hf]; rfl) (by rw [hf]; exact hK _ _ h)
theorem built_q0 : Tryz.prog.built 162 [] = some (qA q0) := by kernel_rfl
theorem new_any (w : World) : Calls Tryz.prog 36 #[] w fun e w' => e = .returned (.pointer (some ⟨w.heap.size, 0, none⟩)) ∧ w.grownBy w' none ∧ QP w.heap.size noL (fun _ => 0) w' := by
  have HB := Lib.hid built_q0
  generalize hA : qA q0 = A at HB
  have HA := Lib.hid hA
  clear hA
  go_enter Tryz.func36, Tryz.ntmps36
  go_upto_region 1 with (fail)
  refine wp_region_lit ?_
  refine wpList_build_at rfl 162 #[] rfl A (by simpa using HB.out) ?_
  go_wp2
  go_ret
  refine ⟨rfl, grown_alloc _ _ _, q0, ?_, q0_inv, rfl⟩
  show RowAt _ _ _ (qA q0)
  rw [HA.out]
  exact RowAt.new w _ A
end Go.Proofs.YtjaaljcdaamcjaaGreat.Rd
