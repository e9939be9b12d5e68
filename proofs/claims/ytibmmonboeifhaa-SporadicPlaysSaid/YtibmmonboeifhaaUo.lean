/- SporadicSums: what its rounds need. -/
import Derived.Test.YtibmmonboeifhaaUn
namespace Go.Proofs.Ytibmmonboeifhaa
open Go.RowKit
set_option linter.unusedVariables false

theorem takeL_all {u : Int} : ∀ (l : List (Int × Int)) (b : Int), (∀ x ∈ l, x.1 ≤ u) → (takeL u b l).2 = []
  | [], b, _ => rfl
  | x :: r, b, h => by rw [takeL, if_pos (h x (by simp))]; exact takeL_all r _ fun y hy => h y (by simp [hy])
/-- One period after the last tick the budget is full. -/
theorem GI.full {T : Int} {s : AQ} {now t : Int} (h : GI T s now) (h1 : s.ran + 1 + s.per ≤ t) (h2 : now ≤ t) : (tellA t s).bud = T := by
  have ha := h.ai.tell t
  have hs := ha.sum
  have hp := h.per
  by_cases hn : 0 < s.chk ∧ s.ran + 1 < t
  · have hc : (tellA t s).chk = 0 := by rw [tellA_chk, if_pos hn]
    have hl : (tellA t s).l = [] := by
      rw [tellA_yes hn]
      exact takeL_all _ _ fun x hx => Int.le_trans (endA_k (takeA_k h.k) (Int.le_refl _) h.ai.cap0 x hx) h1
    rw [hc, hl, sumL_nil] at hs; omega
  · have hc : (tellA t s).chk = 0 := by
      rw [tellA_chk, if_neg hn]
      have := h.ai.chk0
      omega
    have hl : (tellA t s).l = [] := by
      rw [tellA_no hn]
      exact takeL_all _ _ fun x hx => Int.le_trans (h.k x hx) h1
    rw [hc, hl, sumL_nil] at hs; omega
theorem sumL_take_le {l : List (Int × Int)} (h : ∀ x ∈ l, 0 ≤ x.2) (k : Nat) : 0 ≤ sumL (l.take k) ∧ sumL (l.take k) ≤ sumL l := by
  have e : sumL l = sumL (l.take k) + sumL (l.drop k) := by rw [← sumL_app, List.take_append_drop]
  have h1 := sumL_nonneg (l := l.take k) fun x hx => h x (List.mem_of_mem_take hx)
  have h2 := sumL_nonneg (l := l.drop k) fun x hx => h x (List.mem_of_mem_drop hx)
  omega
theorem sumL_take_succ {l : List (Int × Int)} {k : Nat} {x : Int × Int} (h : l[k]? = some x) : sumL (l.take (k + 1)) = sumL (l.take k) + x.2 := by
  rw [List.take_add_one, h, sumL_app]; simp [sumL]
theorem GI.chk_tell {T : Int} {s : AQ} {now : Int} (h : GI T s now) : (tellA now s).chk = if s.ran + 1 < now ∨ (tellA now s).bud = 0 then 0 else s.chk := by
  have hc0 := h.ai.chk0
  by_cases c1 : s.ran + 1 < now
  · rw [tellA_chk, show (if s.ran + 1 < now ∨ (tellA now s).bud = 0 then (0 : Int) else s.chk) = 0 from if_pos (.inl c1)]
    split <;> omega
  · have e : (tellA now s).chk = s.chk := by rw [tellA_chk, if_neg (fun e => c1 e.2)]
    by_cases c2 : (tellA now s).bud = 0
    · have := h.tell.j
      rw [e] at this
      rw [e, if_pos (.inr c2)]; omega
    · rw [e, if_neg (fun e => e.elim c1 c2)]
theorem BytesIn.all {w : World} {a : Option Addr} {gs : List Int} {i : Nat} (h : BytesIn w a gs) (hi : i < gs.length) : ∃ b off z, a = some ⟨b, off, none⟩ ∧ (∀ w2, Below w.heap.size w w2 → w2.cell? ⟨b, off + i, none⟩ = some (.int .u8 z)) ∧ 0 ≤ z ∧ z < 256 := by
  have hx : gs[i]? = some gs[i] := List.getElem?_eq_getElem hi
  rcases h.2 with h' | ⟨b, off, rfl, hlt, h'⟩
  · rw [h'] at hi; cases hi
  · exact ⟨b, off, _, rfl, fun w2 hb => by rw [hb.cell (p := ⟨b, _, none⟩) hlt]; exact h' i _ hx, h.1 _ (List.getElem_mem hi)⟩
/-- Parameters in their box. -/
structure PX (w W0 : World) (x : Nat) (b p n l : Int) : Prop where
  row : RowAt W0 x 45 (parA b p n l)
  bel : Below w.heap.size w W0
  lt : w.heap.size ≤ W0.heap.size
theorem PX.cells {w W0 W : World} {x : Nat} {b p n l : Int} (h : PX w W0 x b p n l) (hb : Below W0.heap.size W0 W) : W.cell? ⟨x, 0, none⟩ = some (.int .i64 b) ∧ W.cell? ⟨x, 1, none⟩ = some (.int .i64 p) ∧ W.cell? ⟨x, 2, none⟩ = some (.int .i64 n) := by
  have := h.row.below hb h.row.lt
  exact ⟨this.cell 0, this.cell 1, this.cell 2⟩
theorem PX.all {w W0 W : World} {x : Nat} {b p n l : Int} (h : PX w W0 x b p n l) (hb : Below W0.heap.size W0 W) : Below w.heap.size w W := h.bel.trans (hb.mono h.lt)
theorem PX.new (w : World) (b p n l : Int) : PX w (w.alloc (.cells (parA b p n l) 45)) w.heap.size b p n l := ⟨RowAt.new w _ _, (Below.refl _ _).alloc (Nat.le_refl _) _, by simp⟩
/-- What holds at the head of a round: the server s, at most 256 ticks a round. -/
def SumI (W0 : World) (B G : Nat) (T : Int) (p : Int) (n i : Nat) (s : AQ) (now : Int) (W : World) : Prop := LS W0 B G T s W ∧ GI T s now ∧ now ≤ 256 * i ∧ s.per = p ∧ s.cap = n
theorem SumI.budget {W0 W : World} {B G n i : Nat} {T p now : Int} {s : AQ} (h : SumI W0 B G T p n i s now W) (hi : i ≤ 200) : Calls Try.prog 37 #[.pointer (some ⟨B, 0, none⟩), .int .i64 now] W fun e W' => e = .returned (.tuple #[.int .i64 (tellA now s).bud, .int .i64 0]) ∧ SumI W0 B G T p n i (tellA now s) now W' := by
  obtain ⟨h1, h2, h3, h4, h5⟩ := h
  obtain ⟨e1, e2⟩ := h2.bud (by omega)
  have := h1.call (budget_any h1.ss now)
  rw [e1, e2] at this
  exact this.mono fun e W' ⟨he, hl⟩ => ⟨he, hl, h2.tell, h3, by rw [tellA_per]; exact h4, by rw [tellA_cap]; exact h5⟩
theorem SumI.idem {W0 W : World} {B G n i : Nat} {T p now : Int} {s s1 : AQ} (e : s1 = tellA now s) : tellA now s1 = s1 := by rw [e]; exact tell_tell (Int.le_refl _) s
theorem SumI.run0 {W0 W : World} {B G n i : Nat} {T p now : Int} {s : AQ} (h : SumI W0 B G T p n i s now W) (hi : i ≤ 200) (ht : tellA now s = s) (hb : s.bud = 0) : Calls Try.prog 36 #[.pointer (some ⟨B, 0, none⟩), .int .i64 now] W fun e W' => e = .returned (.int .i64 18) ∧ LS W0 B G T s W' := by
  obtain ⟨h1, h2, h3, h4, h5⟩ := h
  obtain ⟨e1, e2⟩ := h2.runF (by omega) (by rw [ht]; exact hb)
  have := h1.call (run_any h1.ss now)
  rw [e1, e2, ht] at this
  exact this
theorem SumI.run1 {W0 W : World} {B G n i : Nat} {T p now : Int} {s : AQ} (h : SumI W0 B G T p n i s now W) (hi : i ≤ 200) (ht : tellA now s = s) (hb : s.bud ≠ 0) : ∃ s3, (s3.bud = s.bud - 1 ∧ s3.chk = (if s.bud = 1 then 0 else s.chk + 1) ∧ s3.ran = now ∧ s3.per = p ∧ s3.cap = n ∧ GI T s3 (now + 1)) ∧
    Calls Try.prog 36 #[.pointer (some ⟨B, 0, none⟩), .int .i64 now] W fun e W' => e = .returned (.int .i64 0) ∧ LS W0 B G T s3 W' := by
  obtain ⟨h1, h2, h3, h4, h5⟩ := h
  obtain ⟨e1, e2⟩ := h2.runT (by omega) (by rw [ht]; exact hb)
  have hg := h2.ranned (by omega)
  have := h1.call (run_any h1.ss now)
  rw [e2, ht] at hg
  rw [e1, e2, ht] at this
  refine ⟨_, ⟨?_, ?_, ?_, ?_, ?_, hg⟩, this⟩
  · split
    · rw [endA_bud]; rfl
    · rfl
  · split
    · rw [endA_chk]
    · rfl
  · split
    · rw [endA_ran]; rfl
    · rfl
  · split
    · rw [endA_per]; exact h4
    · exact h4
  · split
    · rw [endA_cap]; exact h5
    · exact h5
end Go.Proofs.Ytibmmonboeifhaa
