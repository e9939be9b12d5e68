/- Timers: Expire where timers fire: plain. -/
import Derived.Test.YtkjokmfhmppinaaOt
namespace Go.Proofs.Ytkjokmfhmppinaa
open Go.RowKit Go.Maps Go.Shelf
set_option linter.unusedVariables false

def updT (now : Int) (t : Tm) : Tm := { t with f := nxt t.f t.i now }
def fireL (now : Int) (pre : List (Int × Tm)) (l : TS) : TS := pre.foldl (fun m p => ins p.1 (updT now p.2) m) l
theorem fireL_snoc (now : Int) (pre : List (Int × Tm)) (x : Int × Tm) (l : TS) : fireL now (pre ++ [x]) l = ins x.1 (updT now x.2) (fireL now pre l) := by simp [fireL, List.foldl_append]
theorem fireL_sorted (now : Int) : ∀ (pre : List (Int × Tm)) (l : TS), SortedT l → SortedT (fireL now pre l)
  | [], _, h => h
  | p :: r, l, h => fireL_sorted now r _ (sorted_ins h)
theorem fireL_not (now : Int) {x : Int} : ∀ (pre : List (Int × Tm)) (l : TS), SortedT l → (∀ p ∈ pre, p.1 ≠ x) → get (fireL now pre l) x = get l x
  | [], _, _, _ => rfl
  | p :: r, l, h, hx => by
    show get (fireL now r (ins p.1 (updT now p.2) l)) x = _
    rw [fireL_not now r _ (sorted_ins h) (fun q hq => hx q (by simp [hq])), get_ins _ _ _ _ h, if_neg (hx p (by simp))]
/-- The cells of a timer that has fired. -/
def fe (now : Int) (p : Int × Tm) : List Value := [.int .i64 p.1, .int .i64 p.2.k, .int .i64 p.2.c, .int .i64 p.2.p, .int .i64 p.2.d, .int .i64 p.2.v, .int .i64 (ovr p.2.f p.2.i now)]
/-- The timers that fire, in their order. -/
def FA (l : TS) (now : Int) (fs : List (Int × Tm)) : Prop := fs.Pairwise (fun p q => p.2.f < q.2.f ∨ p.2.f = q.2.f ∧ p.1 < q.1) ∧ ∀ x t, (x, t) ∈ fs ↔ get l x = some t ∧ t.f ≠ 0 ∧ t.f ≤ now
theorem fa_done {l : TS} {now : Int} {xs : List (Int × Tm)} (h : SA l xs) (hx : ∀ p ∈ xs, p.2.f ≤ now) : FA l now xs :=
  ⟨h.1, fun x t => by
    rw [h.2.1 x t]
    constructor
    · rintro ⟨h1, h2⟩; exact ⟨h1, h2, hx (x, t) ((h.2.1 x t).2 ⟨h1, h2⟩)⟩
    · rintro ⟨h1, h2, _⟩; exact ⟨h1, h2⟩⟩
theorem fa_stop {l : TS} {now : Int} {pre rest : List (Int × Tm)} {x : Int × Tm} (h : SA l (pre ++ [x] ++ rest)) (hx : ∀ p ∈ pre, p.2.f ≤ now) (hn : now < x.2.f) : FA l now pre := by
  obtain ⟨h1, h2, _⟩ := h
  rw [List.append_assoc] at h1
  obtain ⟨p1, p2, p3⟩ := List.pairwise_append.1 h1
  refine ⟨p1, fun y t => ?_⟩
  constructor
  · intro hm
    have := (h2 y t).1 (by simp [hm])
    exact ⟨this.1, this.2, hx _ hm⟩
  · rintro ⟨g1, g2, g3⟩
    have hm := (h2 y t).2 ⟨g1, g2⟩
    rw [List.append_assoc, List.mem_append] at hm
    rcases hm with hm | hm
    · exact hm
    · exfalso
      rcases List.mem_cons.1 hm with e | hm
      · rw [← e] at hn; simp at hn; omega
      · have := (List.pairwise_cons.1 p2).1 _ hm
        simp at this; omega
theorem own_nc {W W' : World} {base size : Nat} {t : TypeId} {v : Value} {n : Nat} {xs : List Value} {row : Option Nat} (h : W.ownsRow base t size v n xs) (hg : W.grownBy W' row) (hr : ∀ r, row = some r → ∃ o : Obj, W.heap[r]? = some o ∧ o.isCells = false) : W'.ownsRow base t size v n xs := by
  refine ⟨h.1, h.2.imp id fun ⟨g, cap, cur, h1, h2, h3, r⟩ => ⟨g, cap, cur, h1, h2, ?_, r⟩⟩
  refine (hg.block g (Array.getElem?_eq_some_iff.1 h3).1 fun e => ?_).trans h3
  obtain ⟨o, o1, o2⟩ := hr g e.symm
  rw [h3] at o1; cases o1; cases o2
theorem size_fired : (Try.prog.info? 57).map (·.size) = some 7 := by kernel_rfl
theorem info_fired : (Try.prog.info? 57).map (fun i => (i.zero, i.size, i.bytes)) = some (some (.agg #[.int .i64 0, .int .i64 0, .int .i64 0, .int .i64 0, .int .i64 0, .int .i64 0, .int .i64 0]), 7, 56) := by kernel_rfl
/-- What holds between two rounds of Expire's loop. -/
def ExV (W0 : World) (N B b p q : Nat) (l : TS) (now : Int) (v : Value) (pre : List (Int × Tm)) (W : World) : Prop :=
  TQ W B b (fireL now pre l) now ∧ Bx W B now p ∧ RowAt W q 53 #[v] ∧ W.ownsRow (q + 1) 57 7 v pre.length (pre.flatMap (fe now)) ∧ Fr (fun k => k = B ∨ k = b) W0 W ∧ (∀ x ∈ pre, x.2.f ≤ now) ∧ N ≤ W.heap.size
def ExI (W0 : World) (N B b p q : Nat) (l : TS) (now : Int) (pre : List (Int × Tm)) (W : World) : Prop := ∃ v, ExV W0 N B b p q l now v pre W
theorem ExV.own {W0 : World} {N B b p q : Nat} {l : TS} {now : Int} {v : Value} {pre : List (Int × Tm)} (hN : B < N ∧ b < N ∧ p + 1 < N ∧ q < N ∧ W0.heap.size ≤ N) {X Y : World} {row : Option Nat} (h : ExV W0 N B b p q l now v pre X) (hg : X.grownBy Y row) (hr : ∀ r, row = some r → N ≤ r ∧ ∃ o : Obj, X.heap[r]? = some o ∧ o.isCells = false) : ExV W0 N B b p q l now v pre Y := by
  obtain ⟨h1, h2, h3, h4, h5, h6, h7⟩ := h
  have hf : Fr (fun k => row = some k) X Y := Fr.grown hg (fun k e => e)
  have far : ∀ k, k < N → ¬ (row = some k) := fun k hk e => by have := (hr k e).1; omega
  exact ⟨h1.fr hf (far _ hN.1) (far _ hN.2.1), h2.fr hf (far _ (by omega)) (far _ hN.2.2.1), h3.fr hf (far _ hN.2.2.2.1), own_nc h4 hg (fun r e => (hr r e).2), h5.over hf (fun i e => .inr (by have := (hr i e).1; omega)), h6, Nat.le_trans h7 hg.size⟩
theorem ExI.own {W0 : World} {N B b p q : Nat} {l : TS} {now : Int} {pre : List (Int × Tm)} (hN : B < N ∧ b < N ∧ p + 1 < N ∧ q < N ∧ W0.heap.size ≤ N) {X Y : World} {row : Option Nat} (h : ExI W0 N B b p q l now pre X) (hg : X.grownBy Y row) (hr : ∀ r, row = some r → N ≤ r ∧ ∃ o : Obj, X.heap[r]? = some o ∧ o.isCells = false) : ExI W0 N B b p q l now pre Y := by
  obtain ⟨v, h⟩ := h
  exact ⟨v, h.own hN hg hr⟩
end Go.Proofs.Ytkjokmfhmppinaa
