/- The reference's server: its cells; take. -/
import Derived.Test.YtibmmonboeifhaaUm
import Derived.BigRegion
namespace Go.Proofs.Ytibmmonboeifhaa
open Go.RowKit
set_option linter.unusedVariables false

theorem info_rrep : (Try.prog.info? 105).map (fun i => (i.zero, i.size, i.bytes)) = some (some (.agg #[.int .i64 0, .int .i64 0]), 2, 16) := by kernel_rfl
def encP : List (Int × Int) → List Value
  | [] => []
  | x :: r => .int .i64 x.1 :: .int .i64 x.2 :: encP r
theorem encP_len : ∀ l, (encP l).length = l.length * 2
  | [] => rfl
  | x :: r => by rw [encP, List.length_cons, List.length_cons, encP_len r, List.length_cons]; omega
theorem encP_app : ∀ l m, encP (l ++ m) = encP l ++ encP m
  | [], m => rfl
  | x :: r, m => by rw [List.cons_append, encP, encP_app r m]; rfl
theorem encP_one : ∀ l, ∀ u ∈ encP l, u.oneCell' = true
  | [], u, h => nomatch h
  | x :: r, u, h => by
    rw [encP] at h
    rcases List.mem_cons.1 h with h | h
    · rw [h]; rfl
    · rcases List.mem_cons.1 h with h | h
      · rw [h]; rfl
      · exact encP_one r u h
theorem encP_get : ∀ (l : List (Int × Int)) (i : Nat) (x : Int × Int), l[i]? = some x → (encP l)[i * 2]? = some (.int .i64 x.1) ∧ (encP l)[i * 2 + 1]? = some (.int .i64 x.2)
  | [], i, x, h => by simp at h
  | y :: r, 0, x, h => by simp at h; subst h; exact ⟨rfl, rfl⟩
  | y :: r, i + 1, x, h => by
    have := encP_get r i x (by simpa using h)
    rw [encP, show (i + 1) * 2 = i * 2 + 2 from by omega]
    simpa using this

/-- The reference's server, as it lies in memory; blocks from lo on are its own. -/
structure RQ where
  b0 : Int
  v : Value
  f : Int
  la : Int
def rCells (q : RQ) (s : AQ) (op : Bool) : Array Value := #[.int .i64 q.b0, .int .i64 s.per, .int .i64 (s.cap : Int), .int .i64 s.low, .int .i64 s.bud, q.v, .bool op, .int .i64 q.f, .int .i64 q.la, .int .i64 s.told, .int .i64 s.ran]
structure RAt (W : World) (lo B : Nat) (T : Int) (q : RQ) (s : AQ) : Prop where
  row : RowAt W B 103 (rCells q s (decide (0 < s.chk)))
  own : W.ownsRow lo 105 2 q.v s.l.length (encP s.l)
  ne : q.v.ownBlock ≠ some B
  lo : lo ≤ B
  ai : AI T s
  op : 0 < s.chk → q.la = s.ran ∧ q.f = s.ran - s.chk + 1
  rt : s.ran ≤ s.told
  c32 : s.cap ≤ 32
def RS (lo B : Nat) (T : Int) (b0 : Int) (s : AQ) (W : World) : Prop := ∃ q : RQ, q.b0 = b0 ∧ RAt W lo B T q s
def ToR (lo B : Nat) (T b0 : Int) (s : AQ) (W : World) (e : Ending) (w' : World) : Prop := (∃ v, e = .returned v) ∧ RS lo B T b0 s w' ∧ Fr (fun k => lo ≤ k) W w'
theorem own_fr2 {W W' : World} {S : Nat → Prop} {base size : Nat} {t : TypeId} {v : Value} {n : Nat} {xs : List Value} (h : W.ownsRow base t size v n xs) (hf : Fr S W W') (hS : ∀ k, v.ownBlock = some k → ¬ S k) : W'.ownsRow base t size v n xs := by
  refine ⟨h.1, h.2.imp id fun ⟨g, cap, cur, h1, h2, h3, r⟩ => ⟨g, cap, cur, h1, h2, ?_, r⟩⟩
  rw [hf.block g (Array.getElem?_eq_some_iff.1 h3).1 (hS g (by rw [h1]; rfl))]; exact h3
theorem RAt.rest {W W' : World} {lo B : Nat} {T : Int} {q : RQ} {s : AQ} (h : RAt W lo B T q s) (hf : Fr (fun _ => False) W W') : RAt W' lo B T q s :=
  ⟨h.row.fr hf id, own_fr2 h.own hf (fun _ _ => id), h.ne, h.lo, h.ai, h.op, h.rt, h.c32⟩
theorem RS.keep {W W' : World} {lo B : Nat} {T b0 : Int} {s : AQ} {S : Nat → Prop} (h : RS lo B T b0 s W) (hf : Fr S W W') (hS : ∀ k, S k → k < lo) : RS lo B T b0 s W' := by
  obtain ⟨q, e, h⟩ := h
  refine ⟨q, e, h.row.fr hf (fun e => by have := hS B e; have := h.lo; omega), own_fr2 h.own hf (fun k e e2 => by have := hS k e2; have := (h.own.lt k e).1; omega), h.ne, h.lo, h.ai, h.op, h.rt, h.c32⟩
/-- The list's value, when it isn't empty. -/
theorem own_some {W : World} {lo : Nat} {t : TypeId} {v : Value} {l : List (Int × Int)} (h : W.ownsRow lo t 2 v l.length (encP l)) (hl : 0 < l.length) : ∃ g cap, v = .slice (some ⟨g, 0, none⟩) l.length cap ∧ lo ≤ g ∧ l.length ≤ cap ∧ (∀ i x, l[i]? = some x → W.cell? ⟨g, i * 2, none⟩ = some (.int .i64 x.1) ∧ W.cell? ⟨g, i * 2 + 1, none⟩ = some (.int .i64 x.2)) ∧ ∀ j, W.frozen? ⟨g, j, none⟩ = false := by
  have hc := fun g (e : v.ownBlock = some g) => h.cells (g := g) e
  rcases h.2 with ⟨rfl, h0⟩ | ⟨g, cap, cur, rfl, h2, h3, h4, _, _, _⟩
  · omega
  · refine ⟨g, cap, rfl, h2, h4, fun i x hx => ?_, fun j => frozen_of_row _ _ j _ _ h3⟩
    obtain ⟨e1, e2⟩ := encP_get l i x hx
    have a1 := hc g rfl _ _ e1
    have a2 := hc g rfl _ _ e2
    rw [Addr.add_mid, Nat.zero_add] at a1 a2
    exact ⟨a1, a2⟩
theorem own_cells {W : World} {lo g n cap : Nat} {t : TypeId} {xs : List Value} (h : W.ownsRow lo t 2 (.slice (some ⟨g, 0, none⟩) n cap) n xs) : ∀ j u, xs[j]? = some u → W.cell? ⟨g, j, none⟩ = some u := fun j u hj => by
  have := h.cells (g := g) rfl j u hj
  rw [Addr.add_mid, Nat.zero_add] at this; exact this
theorem own_base {W : World} {lo base size : Nat} {t : TypeId} {v : Value} {n : Nat} {xs : List Value} (h : W.ownsRow base t size v n xs) (hlo : lo ≤ base) : W.ownsRow lo t size v n xs :=
  ⟨h.1, h.2.imp id fun ⟨g, cap, cur, h1, h2, r⟩ => ⟨g, cap, cur, h1, Nat.le_trans hlo h2, r⟩⟩
theorem own_shape {W : World} {lo : Nat} {t : TypeId} {v : Value} {n : Nat} {xs : List Value} (h : W.ownsRow lo t 2 v n xs) : ∃ a c, v = .slice a n c := by
  rcases h.2 with ⟨rfl, h0⟩ | ⟨g, cap, cur, rfl, _⟩
  · exact ⟨_, _, by rw [h0]⟩
  · exact ⟨_, _, rfl⟩
end Go.Proofs.Ytibmmonboeifhaa
