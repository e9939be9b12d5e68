/- A queue of numbers; distancesTo. -/
import Derived.Test.YteikipiigbjgbaaGk
import Derived.Test.YteikipiigbjgbaaGl
import Derived.ArgAppend
import Derived.Deep.LoopGhost
namespace Go.Proofs.Yteikipiigbjgbaa
open Go.RowKit
set_option linter.unusedVariables false

structure Que (W : World) (lo g off cap : Nat) (l : List Nat) : Prop where
  ex : ∃ cur, RowAt W g 3 cur ∧ off + cap ≤ cur.size ∧ ∀ (i x : Nat), l[i]? = some x → cur[off + i]? = some (.int .i64 (x : Int))
  lo_ : lo ≤ g
  len : l.length ≤ cap
theorem Que.lt {W : World} {lo g off cap : Nat} {l : List Nat} (h : Que W lo g off cap l) : g < W.heap.size := by obtain ⟨cur, hr, _⟩ := h.ex; exact hr.lt
theorem Que.fr {W W' : World} {lo g off cap : Nat} {l : List Nat} {S : Nat → Prop} (h : Que W lo g off cap l) (hf : Fr S W W') (hS : ¬ S g) : Que W' lo g off cap l := by
  obtain ⟨cur, hr, h2, h3⟩ := h.ex
  exact ⟨⟨cur, hr.fr hf hS, h2, h3⟩, h.lo_, h.len⟩
theorem Que.head {W : World} {lo g off cap x : Nat} {l : List Nat} (h : Que W lo g off cap (x :: l)) : W.cell? ⟨g, off, none⟩ = some (.int .i64 (x : Int)) := by
  obtain ⟨cur, hr, h2, h3⟩ := h.ex
  rw [hr.cell]; exact h3 0 x rfl
theorem Que.pop {W : World} {lo g off cap x : Nat} {l : List Nat} (h : Que W lo g off (cap + 1) (x :: l)) : Que W lo g (off + 1) cap l := by
  obtain ⟨cur, hr, h2, h3⟩ := h.ex
  refine ⟨⟨cur, hr, by omega, fun i y hy => ?_⟩, h.lo_, by have := h.len; rw [List.length_cons] at this; omega⟩
  have := h3 (i + 1) y (by simpa using hy)
  rw [show off + (i + 1) = off + 1 + i from by omega] at this; exact this
theorem Que.empty {W : World} {lo g off cap : Nat} {l : List Nat} (h : Que W lo g off cap l) : Que W lo g off 0 [] := by
  obtain ⟨cur, hr, h2, h3⟩ := h.ex
  exact ⟨⟨cur, hr, by omega, (fun _ _ h => nomatch h)⟩, h.lo_, Nat.le_refl _⟩
theorem Que.new (W : World) (x : Nat) : Que (W.alloc (.cells #[.int .i64 (x : Int)] 3)) W.heap.size W.heap.size 0 1 [x] :=
  ⟨⟨_, RowAt.new W _ _, by simp, fun i y hy => by
    cases i with
    | zero => simp at hy; subst hy; rfl
    | succ k => simp at hy⟩, Nat.le_refl _, Nat.le_refl _⟩
theorem que_append {W : World} {lo g off cap : Nat} {l : List Nat} (h : Que W lo g off cap l) (hlo : lo ≤ W.heap.size) (ty : TypeId) (ad : Addr) (c x : Nat) (hc : W.cell? (ad.add 0) = some (.int .i64 (x : Int))) (hl : l.length ≤ 65536) :
    ∃ g' off' cap' w', (Builtin.append_ #[22, 22] ty #[.slice (some ⟨g, off, none⟩) l.length cap, .slice (some ad) 1 c]).run Try.prog W = .ok (.slice (some ⟨g', off', none⟩) (l.length + 1) cap') w' ∧ Que w' lo g' off' cap' (l ++ [x]) ∧ Fr (fun k => k = g) W w' := by
  obtain ⟨z0, hi0, hz0, hz1, hz2⟩ := info_parts info_int
  obtain ⟨cur, hr, h2, h3⟩ := h.ex
  have hnews : ∀ j u, ([.int .i64 (x : Int)] : List Value)[j]? = some u → W.cell? (ad.add j) = some u := fun j u hj => by
    cases j with
    | zero => simp at hj; subst hj; exact hc
    | succ k => simp at hj
  by_cases hroom : l.length + 1 ≤ cap
  · have hrun := run_append_room_cells (P := Try.prog) (w := W) 22 ty 3 z0 Try.underlying22 hi0 g off l.length cap ad 1 c [.int .i64 (x : Int)] (by simp [hz1]) hnews (by simp [Value.oneCell']) hroom (fun j hj => by
      have : j = 0 := by simpa using hj
      subst this
      rw [hr.cell, hz1]
      have : off + l.length * 1 + 0 < cur.size := by omega
      rw [Array.getElem?_eq_getElem this]; rfl) (fun j hj => hr.frozen _)
    rw [hz1] at hrun
    refine ⟨g, off, cap, _, hrun, ⟨⟨cur.setIfInBounds (off + l.length) (.int .i64 (x : Int)), ?_, by simpa using h2, fun i y hy => ?_⟩, h.lo_, by simpa using hroom⟩, ?_⟩
    · have := RowAt.set hr (off + l.length * 1) (.int .i64 (x : Int))
      rw [Nat.mul_one] at this; rw [Nat.mul_one]; exact this
    · rw [Array.getElem?_setIfInBounds]
      by_cases e : i = l.length
      · subst e
        rw [if_pos rfl, if_pos (by omega)]
        simp at hy; rw [hy]
      · rw [if_neg (by omega)]
        have hil : i < l.length := by have := (List.getElem?_eq_some_iff.1 hy).1; simp at this; omega
        rw [List.getElem?_append_left hil] at hy
        exact h3 i y hy
    · rw [Nat.mul_one]; exact Fr.set (S := fun k => k = g) _ _ _ _ rfl
  · have hlen := h.len
    obtain ⟨v', w', hrun, r1, r2⟩ := run_append_arg_grows (P := Try.prog) W 22 ty 3 z0 (.int .i64 0) 1 8 Try.underlying22 hi0 hz0 hz1 hz2 rfl (by decide) ⟨g, off, none⟩ l.length cap (encN l) (by rw [encN_len]; omega) (fun j u hj => by
      simp only [encN, List.getElem?_map, Option.map_eq_some_iff] at hj
      obtain ⟨y, h1, h2⟩ := hj
      rw [Addr.add_mid, hr.cell, h3 j y h1, h2]) ad 1 c [.int .i64 (x : Int)] rfl hnews (by omega) (by unfold maxLen; omega) (by omega)
    have hlt := r1.lt
    rcases r1.2 with ⟨_, h0⟩ | ⟨g', cap', cur', rfl, g1, g2, g3, g4, g5, g6⟩
    · omega
    · refine ⟨g', 0, cap', w', hrun, ⟨⟨cur', g2, by omega, fun i y hy => ?_⟩, by omega, by simpa using g3⟩, (Fr.grown (S := fun k => k = g) r2 (fun k e => nomatch e))⟩
      have e : (cur'.toList.take ((l.length + 1) * 1))[i]? = some (.int .i64 (y : Int)) := by
        rw [g6]
        have : encN l ++ [Value.int .i64 (x : Int)] = encN (l ++ [x]) := by simp [encN]
        rw [this]; simp only [encN, List.getElem?_map, hy]; rfl
      rw [List.getElem?_take] at e
      rw [Nat.zero_add]
      split at e
      · simpa using e
      · cases e
theorem wpList_append_que {ops : Array Oper} {rest : List Oper} {o : Oper} {a : Act} {W : World} {Q : Exit → Act → World → Prop} (hgd : o.guard = none) (s x : Operand)
    (ho : o.op = .call { callee := .builtin .append, args := #[s, x], argTypes := #[22, 22] }) {lo g off cap : Nat} {l : List Nat} (hs : a.eval s = .slice (some ⟨g, off, none⟩) l.length cap) (hq : Que W lo g off cap l) (hlo : lo ≤ W.heap.size)
    (ad : Addr) (c y : Nat) (hx : a.eval x = .slice (some ad) 1 c) (hc : W.cell? (ad.add 0) = some (.int .i64 (y : Int))) (hl : l.length ≤ 65536)
    (h : ∀ g' off' cap' w', Que w' lo g' off' cap' (l ++ [y]) → Fr (fun k => k = g) W w' → wpList Try.prog ops Q rest (a.put o.dst (.slice (some ⟨g', off', none⟩) (l.length + 1) cap')) w') : wpList Try.prog ops Q (o :: rest) a W := by
  refine wpList_plain hgd fun K hK => ?_
  obtain ⟨g', off', cap', w', hr, h2, h3⟩ := que_append hq hlo o.type ad c y hc hl
  unfold Oper.wp execOp
  simp only [ho, resolve, invoke, builtin, Sem.run_bind, Sem.run_pure, Result.andThen_ok, List.map_toArray, List.map_cons, List.map_nil, hs, hx, hr]
  exact hK _ _ (h g' off' cap' w' h2 h3)

def encPA (n : Nat) (p : Nat → Int) : Array Value := (encP n p).toArray
theorem encPA_get {n i : Nat} (p : Nat → Int) (h : i < n) : (encPA n p)[i]? = some (.int .i64 (p i)) := by simp only [encPA, List.getElem?_toArray]; exact encP_get p h
theorem encPA_set (n i : Nat) (p : Nat → Int) (x : Int) : (encPA n p).setIfInBounds i (.int .i64 x) = encPA n (upI p i x) := by
  unfold encPA
  rw [← encP_set, List.setIfInBounds_toArray]
theorem encPA_congr {n : Nat} {p q : Nat → Int} (h : ∀ i, i < n → p i = q i) : encPA n p = encPA n q := by
  unfold encPA encP
  rw [List.map_congr_left (fun i hi => by rw [h i (List.mem_range.1 hi)])]
theorem fillA_enc (n : Nat) : fillA n 0 = encPA n (fun _ => 0) := by
  unfold fillA encPA encP
  rw [List.map_congr_left (fun i hi => by rw [if_neg (Nat.not_lt_zero _)])]
end Go.Proofs.Yteikipiigbjgbaa
