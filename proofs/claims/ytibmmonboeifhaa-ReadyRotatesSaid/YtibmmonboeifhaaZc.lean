/- ReadyRotates: the walk. -/
import Derived.Test.YtibmmonboeifhaaYy
import Derived.Deep.QuietTactic
import Derived.BigQuiet
namespace Go.Proofs.Ytibmmonboeifhaa
open Go.RowKit Go.Shelf
set_option linter.unusedVariables false

theorem rot_long (a : Option Addr) (n cap : Nat) (hn : 60 < n) (c : Int) (w : World) : Calls Try.prog 5 #[.slice a n cap, .int .u8 c] w fun e w' => e = .returned (.bool true) ∧ w.grownBy w' none := by
  have h : (60 : Int) < n := by omega
  clear hn
  go_enter Try.func5, Try.ntmps5
  go_wp2_with (go_at_call 9; refine (awake_any _).mono ?_; rintro e w' ⟨rfl, g1⟩)
  go_ret
  exact ⟨rfl, g1⟩

/-- What holds at the head of a round of the adding loop. -/
def RotI (w : World) (c n : Nat) (W : World) : Prop := ∃ ls mk, AW ls mk w W ∧ M255 mk ∧ (ls c).length = n
theorem RotI.keep {w W W' : World} {c n : Nat} (h : RotI w c n W) (hg : W.grownBy W' none) : RotI w c n W' := by
  obtain ⟨ls, mk, h1, h2, h3⟩ := h
  exact ⟨ls, mk, h1.none hg, h2, h3⟩
theorem rot_add {w W : World} {c n : Nat} (h : RotI w c n W) (t p : Int) (f : Bool) : ∃ z : Int, 
    ((z == 0) = true ∧ p = c ∧ Calls Try.prog 18 #[.pointer (some ⟨w.heap.size, 0, none⟩), .int .i64 t, .int .i64 p, .int .i64 255, .bool f] W fun e W' => e = .returned (.int .i64 z) ∧ RotI w c (n + 1) W' ∧ W.grownBy W' (some w.heap.size)) ∨
    ((z == 0) = true ∧ p ≠ c ∧ Calls Try.prog 18 #[.pointer (some ⟨w.heap.size, 0, none⟩), .int .i64 t, .int .i64 p, .int .i64 255, .bool f] W fun e W' => e = .returned (.int .i64 z) ∧ RotI w c n W' ∧ W.grownBy W' (some w.heap.size)) ∨
    ((z == 0) = false ∧ Calls Try.prog 18 #[.pointer (some ⟨w.heap.size, 0, none⟩), .int .i64 t, .int .i64 p, .int .i64 255, .bool f] W fun e W' => e = .returned (.int .i64 z) ∧ RotI w c n W' ∧ W.grownBy W' (some w.heap.size)) := by
  obtain ⟨ls, mk, h1, h2, h3⟩ := h
  refine ⟨addE mk t p 255, ?_⟩
  have hc := aw_add h1 t p f
  by_cases hz : addE mk t p 255 = 0
  · obtain ⟨e1, e2, e3, e4⟩ := addL_ok (ls := ls) (f := f) hz
    by_cases hp : p = c
    · refine .inl ⟨by simpa using hz, hp, hc.mono fun e W' ⟨he, ha, hg⟩ => ⟨he, ⟨_, _, ha, h2.add t p, ?_⟩, hg⟩⟩
      rw [e1, show p.toNat = c from by omega, ins_same]
      split <;> simp [h3]
    · refine .inr (.inl ⟨by simpa using hz, hp, hc.mono fun e W' ⟨he, ha, hg⟩ => ⟨he, ⟨_, _, ha, h2.add t p, ?_⟩, hg⟩⟩)
      rw [addL_other hp]; exact h3
  · obtain ⟨e1, e2⟩ := addL_no (ls := ls) (f := f) hz
    refine .inr (.inr ⟨by simpa using hz, hc.mono fun e W' ⟨he, ha, hg⟩ => ⟨he, ⟨_, _, ha, h2.add t p, ?_⟩, hg⟩⟩)
    rw [e1]; exact h3

/-- The list of p, turned k times. -/
def rotK (ls : Nat → List Nat) (p k : Nat) : Nat → List Nat := fun i => if i = p then (ls p).drop k ++ (ls p).take k else ls i
theorem rotK_zero (ls : Nat → List Nat) (p : Nat) : rotK ls p 0 = ls := by
  funext i; rw [rotK]; split
  · rename_i h; rw [h]; simp
  · rfl
theorem rotK_all (ls : Nat → List Nat) (p : Nat) : rotK ls p (ls p).length = ls := by
  funext i; rw [rotK]; split
  · rename_i h; rw [h]; simp
  · rfl
theorem rotK_same (ls : Nat → List Nat) (p k : Nat) : rotK ls p k p = (ls p).drop k ++ (ls p).take k := by rw [rotK, if_pos rfl]
theorem rotK_succ (ls : Nat → List Nat) (p k : Nat) (h : k < (ls p).length) : rotL (rotK ls p k) p = rotK ls p (k + 1) ∧ rotK ls p k p ≠ [] := by
  have e : rotK ls p k p = (ls p)[k] :: ((ls p).drop (k + 1) ++ (ls p).take k) := by rw [rotK_same, List.drop_eq_getElem_cons h, List.cons_append]
  refine ⟨?_, by rw [e]; simp⟩
  funext i
  rw [rotL, e]
  by_cases hi : i = p
  · rw [if_pos hi, hi, rotK_same]
    show (_ ++ _) ++ _ = _
    rw [List.append_assoc, List.take_succ_eq_append_getElem h]
  · rw [if_neg hi, rotK, rotK, if_neg hi, if_neg hi]
theorem last_at {ls : Nat → List Nat} : ∀ n, orderN n ls ≠ [] → ∃ p b t, p < n ∧ ls p = b ++ [t] ∧ ∃ a, orderN n ls = a ++ [t]
  | 0, h => absurd rfl h
  | n + 1, h => by
    rw [orderN] at h ⊢
    by_cases hn : orderN n ls = []
    · rw [hn, List.append_nil] at h ⊢
      obtain ⟨b, t, hb⟩ : ∃ b t, ls n = b ++ [t] := ⟨_, _, (List.dropLast_concat_getLast h).symm⟩
      exact ⟨n, b, t, by omega, hb, b, hb⟩
    · obtain ⟨p, b, t, h1, h2, a, h3⟩ := last_at n hn
      exact ⟨p, b, t, by omega, h2, ls n ++ a, by rw [h3, List.append_assoc]⟩
theorem upd_back {mk : Nat → Nat} {t : Nat} (h : mk t = 255) : upd (upd mk t 0) t 255 = mk := by
  funext i; rw [upd, upd]
  by_cases e : i = t
  · rw [if_pos e, e, h]
  · rw [if_neg e, if_neg e]
/-- Taken away and added at the same end: as it was. -/
theorem ins_back {q : QS} {ls : Nat → List Nat} (h : QInv q ls) {t p : Nat} (f : Bool) {b : List Nat} (hl : ls p = if f = true then t :: b else b ++ [t]) : ins (del ls t) t p f = ls := by
  have hm : t ∈ ls p := by rw [hl]; split <;> simp
  have hnd := h.r.nodup p
  funext i
  by_cases hi : i = p
  · subst hi
    rw [ins_same, del, hl]
    cases f
    · rw [if_neg (by simp), if_neg (by simp)]
      rw [hl, if_neg (by simp), List.nodup_append] at hnd
      have : t ∉ b := fun hb => hnd.2.2 t hb t (by simp) rfl
      rw [List.erase_append_right _ this, List.erase_cons_head, List.append_nil]
    · rw [if_pos rfl, if_pos rfl, List.erase_cons_head]
  · rw [ins_other hi]; exact del_same' fun hx => hi (h.only hm i hx)

/-- What becomes of a thread at an end. -/
theorem rot_ends {w W : World} {ls : Nat → List Nat} {mk : Nat → Nat} (h : AW ls mk w W) (hm : M255 mk) (t p : Nat) (f : Bool) (b : List Nat) (hl : ls p = if f = true then t :: b else b ++ [t]) : ∃ (ls' : Nat → List Nat) (mk' : Nat → Nat),
    Hid (∀ W, AW ls mk w W → Calls Try.prog 20 #[.pointer (some ⟨w.heap.size, 0, none⟩), .int .i64 t] W fun e w' => e = .returned (.tuple #[.int .i64 p, .int .i64 0]) ∧ W = w') ∧
    Hid (∀ W, AW ls mk w W → Calls Try.prog 23 #[.pointer (some ⟨w.heap.size, 0, none⟩), .int .i64 t] W fun e w' => e = .returned (.int .i64 0) ∧ AW ls' mk' w w' ∧ W.grownBy w' (some w.heap.size)) ∧
    Hid (∀ W, AW ls' mk' w W → Calls Try.prog 18 #[.pointer (some ⟨w.heap.size, 0, none⟩), .int .i64 t, .int .i64 p, .int .i64 255, .bool f] W fun e w' => e = .returned (.int .i64 0) ∧ AW ls mk w w' ∧ W.grownBy w' (some w.heap.size)) := by
  have h' := h
  obtain ⟨⟨q, h1, h2, rfl⟩, hb⟩ := h
  have hmt : t ∈ ls p := by rw [hl]; split <;> simp
  have ht := (h2.r.mem p t hmt).1
  have hp := (h2.r.mem p t hmt).2.1
  have hm0 : q.mask t ≠ 0 := (h2.mask0 t ht).2 ⟨p, hmt⟩
  have hmx : q.mask t = 255 := (hm t).resolve_left hm0
  refine ⟨del ls t, upd q.mask t 0, fun W hW => prio_ok hW.1 t p ht hm0 hmt, fun W hW => (remove_ok hW.1 t ht hm0).mono fun e w' ⟨he, hg, hq⟩ => ⟨he, hW.own hg hq, hg⟩, fun W hW => ?_⟩
  refine (add_ok hW.1 t p 255 f ht hp (by decide) (by decide) (upd_same _ _ _)).mono fun e w' ⟨he, hg, hq⟩ => ⟨he, ?_, hg⟩
  have := hW.own hg hq
  rw [ins_back h2 f hl, upd_back hmx] at this
  exact this

theorem owns_row {W : World} {s L : Nat} {xs : List Nat} (h : W.ownsRow s 3 1 (.slice (some ⟨s, 0, none⟩) L L) L (encI xs)) : RowAt W s 3 (encI xs).toArray := by
  rcases h.2 with h | ⟨g, cap, cur, h1, _, h3, _, _, h6, h7⟩
  · cases h.1
  · injection h1 with h1 _ h1'
    injection h1 with h1
    injection h1 with h1
    subst h1 h1'
    rw [List.take_of_length_le (by simp [h6])] at h7
    rw [← h7]; exact h3
/-- The queue, and the list that was noted. -/
structure RS (w : World) (g : Nat) (l : List Nat) (ls : Nat → List Nat) (mk : Nat → Nat) (W : World) : Prop where
  aw : AW ls mk w W
  lt : w.heap.size < g
  row : RowAt W g 3 (encI l).toArray
theorem RS.keep {w W W' : World} {g : Nat} {l : List Nat} {ls : Nat → List Nat} {mk : Nat → Nat} (h : RS w g l ls mk W) (hg : W.grownBy W' none) : RS w g l ls mk W' := ⟨h.aw.none hg, h.lt, h.row.kept hg (by simp)⟩
theorem RS.own {w W W' : World} {g : Nat} {l : List Nat} {ls ls' : Nat → List Nat} {mk mk' : Nat → Nat} (h : RS w g l ls mk W) (ha : AW ls' mk' w W') (hg : W.grownBy W' (some w.heap.size)) : RS w g l ls' mk' W' :=
  ⟨ha, h.lt, h.row.kept hg (by have := h.lt; simp; omega)⟩
theorem order_row {ls : Nat → List Nat} {mk : Nat → Nat} {w W : World} (h : AW ls mk w W) : Calls Try.prog 13 #[.pointer (some ⟨w.heap.size, 0, none⟩)] W fun e W' => ∃ g, e = .returned (.slice (some ⟨g, 0, none⟩) (order ls).length (order ls).length) ∧ RS w g (order ls) ls mk W' := by
  have h' := h
  obtain ⟨⟨q, h1, h2, rfl⟩, hb⟩ := h'
  exact (order_in _ q ls h2 W h1).mono fun e W' ⟨he, ho, hg⟩ => ⟨W.heap.size, he, h.none hg, h1.lt, owns_row ho⟩
theorem RS.order {w W : World} {g : Nat} {l : List Nat} {ls : Nat → List Nat} {mk : Nat → Nat} (h : RS w g l ls mk W) : Calls Try.prog 13 #[.pointer (some ⟨w.heap.size, 0, none⟩)] W fun e W' => ∃ v, e = .returned v ∧ SlN W' v (Proofs.Ytibmmonboeifhaa.order ls) ∧ RS w g l ls mk W' :=
  (order_any h.aw.1).mono fun e W' ⟨v, he, hs, hg⟩ => ⟨v, he, hs, h.keep hg⟩
theorem RS.equal {w W : World} {g : Nat} {l : List Nat} {ls : Nat → List Nat} {mk : Nat → Nat} (h : RS w g l ls mk W) (v : Value) (hs : SlN W v l) (hl : l.length ≤ 65536) : Calls Try.prog 12 #[v, .slice (some ⟨g, 0, none⟩) l.length l.length] W fun e W' => e = .returned (.bool true) ∧ RS w g l ls mk W' := by
  refine (equal_any l l W v _ hs ⟨_, _, rfl, .inr ⟨g, rfl, fun j x hj => ?_⟩⟩ hl).mono fun e W' ⟨he, hg⟩ => ⟨by rw [he]; simp, h.keep hg⟩
  rw [h.row.cell j]; simp [encI, hj]
/-- The first and the last thread. -/
theorem rot_two {w W : World} {g : Nat} {l : List Nat} {ls : Nat → List Nat} {mk : Nat → Nat} (h : RS w g l ls mk W) (ho : order ls = l) (hne : l ≠ []) : ∃ x y px py bx bY, ls px = (if true = true then x :: bx else bx ++ [x]) ∧ ls py = (if false = true then y :: bY else bY ++ [y]) ∧ W.cell? ⟨g, 0, none⟩ = some (.int .i64 (x : Nat)) ∧ W.cell? ⟨g, l.length - 1, none⟩ = some (.int .i64 (y : Nat)) := by
  obtain ⟨py, bY, y, _, h2, a, h3⟩ := last_at (ls := ls) 256 (by rw [← order, ho]; exact hne)
  rw [← order, ho] at h3
  obtain ⟨x, r, hx⟩ : ∃ x r, l = x :: r := by
    cases l with
    | nil => exact absurd rfl hne
    | cons x r => exact ⟨x, r, rfl⟩
  obtain ⟨px, bx, _, h4⟩ := head_at (ho.trans hx)
  refine ⟨x, y, px, py, bx, bY, by rw [if_pos rfl]; exact h4, by rw [if_neg (by simp)]; exact h2, ?_, ?_⟩
  · rw [h.row.cell 0, hx]; rfl
  · rw [h.row.cell, h3]; simp [encI]
end Go.Proofs.Ytibmmonboeifhaa
