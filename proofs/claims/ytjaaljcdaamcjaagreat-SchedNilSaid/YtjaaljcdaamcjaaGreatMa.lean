/- Blocks, frames of several blocks, and the cells of a partition meter. -/
import Derived.Test.YtjaaljcdaamcjaaGreatProg
import Derived.WalkKit
import Derived.Lib.Hide
import Derived.Below
import Derived.Deep.MidRow
import Derived.Deep.WholeRow
import Derived.Laws.Tables
import Derived.OwnWalk
import Derived.LoopTactic
import Derived.RegionTactic
import Derived.ChangeAlike
import Derived.Deep.QuietTactic
import Derived.BigQuiet
import Derived.IntWalk
namespace Go.Proofs.YtjaaljcdaamcjaaGreat.Pa
open Go.RowKit
set_option linter.unusedVariables false

/-- A block that holds these cells. -/
def RowAt (W : World) (B : Nat) (t : TypeId) (cs : Array Value) : Prop := W.heap[B]? = some (.cells cs t (0, 0))
theorem RowAt.lt {W : World} {B : Nat} {t : TypeId} {cs : Array Value} (h : RowAt W B t cs) : B < W.heap.size := (Array.getElem?_eq_some_iff.1 h).1
theorem RowAt.new (W : World) (t : TypeId) (cs : Array Value) : RowAt (W.alloc (.cells cs t)) W.heap.size t cs := heap_alloc_new W _
theorem RowAt.cell {W : World} {B : Nat} {t : TypeId} {cs : Array Value} (h : RowAt W B t cs) (i : Nat) : W.cell? ⟨B, i, none⟩ = cs[i]? := cell_of_row W B i cs t (0, 0) h
theorem RowAt.frozen {W : World} {B : Nat} {t : TypeId} {cs : Array Value} (h : RowAt W B t cs) (i : Nat) : W.frozen? ⟨B, i, none⟩ = false := frozen_of_row _ _ i _ _ h
theorem RowAt.set {W : World} {B : Nat} {t : TypeId} {cs : Array Value} (h : RowAt W B t cs) (i : Nat) (v : Value) : RowAt (W.setCell ⟨B, i, none⟩ v) B t (cs.setIfInBounds i v) := heap_setCell_same W _ _ _ _ _ h
theorem RowAt.below {W W' : World} {n₀ B : Nat} {t : TypeId} {cs : Array Value} (h : RowAt W B t cs) (hb : Below n₀ W W') (hlt : B < n₀) : RowAt W' B t cs := (hb.block B hlt).trans h
theorem RowAt.other {W : World} {B B' : Nat} {t : TypeId} {cs : Array Value} (h : RowAt W B t cs) (hne : B ≠ B') (i : Nat) (v : Value) : RowAt (W.setCell ⟨B', i, none⟩ v) B t cs := by
  show _ = _
  rw [heap_setCell_other _ _ _ _ hne]; exact h

/-- What is not in S is as it was. -/
structure Fr (S : Nat → Prop) (w w' : World) : Prop where
  os : w'.os = w.os
  tape : w'.tape = w.tape
  output : w'.output = w.output
  size : w.heap.size ≤ w'.heap.size
  block : ∀ k, k < w.heap.size → ¬ S k → w'.heap[k]? = w.heap[k]?
theorem Fr.refl (S : Nat → Prop) (w : World) : Fr S w w := ⟨rfl, rfl, rfl, Nat.le_refl _, fun _ _ _ => rfl⟩
theorem Fr.trans {S : Nat → Prop} {A B C : World} (h : Fr S A B) (k : Fr S B C) : Fr S A C :=
  ⟨k.os.trans h.os, k.tape.trans h.tape, k.output.trans h.output, Nat.le_trans h.size k.size, fun i hi hr => (k.block i (Nat.lt_of_lt_of_le hi h.size) hr).trans (h.block i hi hr)⟩
theorem Fr.mono {S T : Nat → Prop} {A B : World} (h : Fr S A B) (hs : ∀ k, k < A.heap.size → S k → T k) : Fr T A B := ⟨h.os, h.tape, h.output, h.size, fun k hk hr => h.block k hk fun e => hr (hs k hk e)⟩
theorem Fr.set {S : Nat → Prop} (W : World) (B i : Nat) (v : Value) (h : S B) : Fr S W (W.setCell ⟨B, i, none⟩ v) :=
  ⟨rfl, rfl, rfl, by simp, fun k _ hk => heap_setCell_other _ _ _ _ (fun e => hk (by rw [e]; exact h))⟩
theorem Fr.alloc (S : Nat → Prop) (W : World) (o : Obj) : Fr S W (W.alloc o) := ⟨rfl, rfl, rfl, by simp, fun k hk _ => heap_alloc_old _ _ hk⟩
theorem Fr.drew (S : Nat → Prop) (W : World) : Fr S W W.drew := ⟨rfl, rfl, rfl, Nat.le_refl _, fun _ _ _ => rfl⟩
theorem Fr.drewN (S : Nat → Prop) (W : World) (n : Nat) : Fr S W (W.drewN n) := ⟨rfl, rfl, rfl, Nat.le_refl _, fun _ _ _ => rfl⟩
theorem Fr.grown {S : Nat → Prop} {A B : World} {row : Option Nat} (h : A.grownBy B row) (hr : ∀ k, row = some k → S k) : Fr S A B := ⟨h.os, h.tape, h.output, h.size, fun k hk hs => h.block k hk fun e => hs (hr k e.symm)⟩
theorem Fr.below {S : Nat → Prop} {n : Nat} {A B C : World} (h : Below n A B) (k : Fr S B C) (hn : n ≤ B.heap.size) (hs : ∀ i, S i → n ≤ i) : Below n A C :=
  ⟨k.os.trans h.os, k.tape.trans h.tape, k.output.trans h.output, Nat.le_trans h.size k.size, fun i hi => (k.block i (by omega) fun e => by have := hs i e; omega).trans (h.block i hi)⟩
theorem Fr.toBelow {S : Nat → Prop} {A B : World} (h : Fr S A B) (hs : ∀ i, i < A.heap.size → ¬ S i) : Below A.heap.size A B := ⟨h.os, h.tape, h.output, h.size, fun i hi => h.block i hi (hs i hi)⟩
theorem RowAt.fr {W W' : World} {S : Nat → Prop} {B : Nat} {t : TypeId} {cs : Array Value} (h : RowAt W B t cs) (hg : Fr S W W') (hne : ¬ S B) : RowAt W' B t cs := (hg.block B h.lt hne).trans h
theorem Fr.setRow {S : Nat → Prop} (W : World) (B : Nat) (cs : Array Value) (h : S B) : Fr S W (W.setRow B cs) :=
  ⟨rfl, rfl, rfl, by simp, fun k _ hk => setRow_other _ _ _ _ (fun e => hk (by rw [e]; exact h))⟩

/-- A meter, as it lies in memory: a slot is the list of its charges (critical, partition). -/
structure MQ where
  win : Nat
  pr : Nat
  np : Nat
  bud : Nat → Int
  cri : Nat → Int
  use : Nat → Int
  ucr : Nat → Int
  sl : Nat → List (Bool × Nat)
  told : Nat
def accV (q : MQ) (p f : Nat) : Value := if f = 0 then .int .i64 (q.bud p) else if f = 1 then .int .i64 (q.cri p) else if f = 2 then .int .i64 (q.use p) else .int .i64 (q.ucr p)
def chgV (o : Option (Bool × Nat)) (f : Nat) : Value :=
  match o with
  | some c => if f = 0 then .bool true else if f = 1 then .bool c.1 else .int .u8 (c.2 : Int)
  | none => if f = 0 then .bool false else if f = 1 then .bool false else .int .u8 0
/-- The meter's cell at an offset. -/
def mv (q : MQ) (i : Nat) : Value :=
  if i = 0 then .int .i64 (q.win : Int) else if i = 1 then .int .i64 (q.pr : Int) else if i = 2 then .int .i64 (q.np : Int) else
  if i < 35 then accV q ((i - 3) / 4) ((i - 3) % 4) else if i < 24035 then chgV (q.sl ((i - 35) / 24))[(i - 35) % 24 / 3]? ((i - 35) % 3) else .int .i64 (q.told : Int)
def mA (q : MQ) : Array Value := ((List.range 24036).map (mv q)).toArray
theorem mA_get (q : MQ) (i : Nat) (h : i < 24036) : (mA q)[i]? = some (mv q i) := by simp [mA, h]
theorem mA_size (q : MQ) : (mA q).size = 24036 := by simp [mA]
theorem mA_ext {q : MQ} {A : Array Value} (h0 : A.size = 24036) (h : ∀ j, j < 24036 → A[j]? = some (mv q j)) : A = mA q := by
  apply Array.ext_getElem?
  intro j
  by_cases hj : j < 24036
  · rw [h j hj, mA_get q j hj]
  · rw [Array.getElem?_eq_none (by omega), Array.getElem?_eq_none (by rw [mA_size]; omega)]
theorem mA_set (q q' : MQ) (i : Nat) (v : Value) (h : ∀ j, j < 24036 → mv q' j = if j = i then v else mv q j) : (mA q).setIfInBounds i v = mA q' := by
  refine mA_ext (by rw [Array.size_setIfInBounds, mA_size]) fun j hj => ?_
  rw [h j hj, Array.getElem?_setIfInBounds]
  by_cases e : i = j
  · subst e; simp [mA_size, hj]
  · rw [if_neg e, if_neg (fun x => e x.symm), mA_get q j hj]
def MAt (W : World) (B : Nat) (q : MQ) : Prop := RowAt W B 151 (mA q)
section
variable {W : World} {B : Nat} {q : MQ}
theorem MAt.lt (h : MAt W B q) : B < W.heap.size := RowAt.lt h
theorem MAt.frozen (h : MAt W B q) (i : Nat) : W.frozen? ⟨B, i, none⟩ = false := RowAt.frozen h i
theorem MAt.fr {W' : World} {S : Nat → Prop} (h : MAt W B q) (hg : Fr S W W') (hne : ¬ S B) : MAt W' B q := RowAt.fr h hg hne
theorem MAt.win (h : MAt W B q) : W.cell? ⟨B, 0, none⟩ = some (.int .i64 (q.win : Int)) := by rw [RowAt.cell h, mA_get q 0 (by omega)]; rfl
theorem MAt.pr (h : MAt W B q) : W.cell? ⟨B, 1, none⟩ = some (.int .i64 (q.pr : Int)) := by rw [RowAt.cell h, mA_get q 1 (by omega)]; rfl
theorem MAt.np (h : MAt W B q) : W.cell? ⟨B, 2, none⟩ = some (.int .i64 (q.np : Int)) := by rw [RowAt.cell h, mA_get q 2 (by omega)]; rfl
theorem mv_acc (q : MQ) (p f : Nat) (hp : p < 8) (hf : f < 4) : mv q (3 + p * 4 + f) = accV q p f := by
  rw [mv, if_neg (by omega), if_neg (by omega), if_neg (by omega), if_pos (by omega), show (3 + p * 4 + f - 3) / 4 = p from by omega, show (3 + p * 4 + f - 3) % 4 = f from by omega]
theorem MAt.bud (h : MAt W B q) (p : Nat) (hp : p < 8) : W.cell? ⟨B, 3 + p * 4, none⟩ = some (.int .i64 (q.bud p)) := by
  rw [RowAt.cell h, mA_get q _ (by omega), show 3 + p * 4 = 3 + p * 4 + 0 from rfl, mv_acc q p 0 hp (by omega)]; rfl
theorem MAt.cri (h : MAt W B q) (p : Nat) (hp : p < 8) : W.cell? ⟨B, 3 + p * 4 + 1, none⟩ = some (.int .i64 (q.cri p)) := by
  rw [RowAt.cell h, mA_get q _ (by omega), mv_acc q p 1 hp (by omega)]; rfl
theorem MAt.use (h : MAt W B q) (p : Nat) (hp : p < 8) : W.cell? ⟨B, 3 + p * 4 + 2, none⟩ = some (.int .i64 (q.use p)) := by
  rw [RowAt.cell h, mA_get q _ (by omega), mv_acc q p 2 hp (by omega)]; rfl
theorem MAt.ucr (h : MAt W B q) (p : Nat) (hp : p < 8) : W.cell? ⟨B, 3 + p * 4 + 3, none⟩ = some (.int .i64 (q.ucr p)) := by
  rw [RowAt.cell h, mA_get q _ (by omega), mv_acc q p 3 hp (by omega)]; rfl
theorem mv_chg (q : MQ) (s j f : Nat) (hs : s < 1000) (hj : j < 8) (hf : f < 3) : mv q (35 + s * 24 + j * 3 + f) = chgV (q.sl s)[j]? f := by
  rw [mv, if_neg (by omega), if_neg (by omega), if_neg (by omega), if_neg (by omega), if_pos (by omega), show (35 + s * 24 + j * 3 + f - 35) / 24 = s from by omega, show (35 + s * 24 + j * 3 + f - 35) % 24 / 3 = j from by omega, show (35 + s * 24 + j * 3 + f - 35) % 3 = f from by omega]
theorem MAt.chg (h : MAt W B q) (s j f : Nat) (hs : s < 1000) (hj : j < 8) (hf : f < 3) : W.cell? ⟨B, 35 + s * 24 + j * 3 + f, none⟩ = some (chgV (q.sl s)[j]? f) := by
  rw [RowAt.cell h, mA_get q _ (by omega), mv_chg q s j f hs hj hf]
theorem MAt.told (h : MAt W B q) : W.cell? ⟨B, 24035, none⟩ = some (.int .i64 (q.told : Int)) := by rw [RowAt.cell h, mA_get q _ (by omega)]; rfl
end
/-- Any offset is one of these. -/
theorem off_cases {j : Nat} (hj : j < 24036) : j = 0 ∨ j = 1 ∨ j = 2 ∨ (∃ p f, p < 8 ∧ f < 4 ∧ j = 3 + p * 4 + f) ∨ (∃ s k f, s < 1000 ∧ k < 8 ∧ f < 3 ∧ j = 35 + s * 24 + k * 3 + f) ∨ j = 24035 := by
  by_cases h3 : j < 3
  · omega
  · by_cases h35 : j < 35
    · exact .inr (.inr (.inr (.inl ⟨(j - 3) / 4, (j - 3) % 4, by omega, by omega, by omega⟩)))
    · by_cases h4 : j < 24035
      · exact .inr (.inr (.inr (.inr (.inl ⟨(j - 35) / 24, (j - 35) % 24 / 3, (j - 35) % 3, by omega, by omega, by omega, by omega⟩))))
      · omega
theorem mv_told (q : MQ) : mv q 24035 = .int .i64 (q.told : Int) := rfl
def updI (f : Nat → Int) (i : Nat) (x : Int) : Nat → Int := fun j => if j = i then x else f j
def updL (f : Nat → List (Bool × Nat)) (i : Nat) (x : List (Bool × Nat)) : Nat → List (Bool × Nat) := fun j => if j = i then x else f j
theorem updI_same (f : Nat → Int) (i : Nat) (x : Int) : updI f i x i = x := by simp [updI]
theorem updI_other {f : Nat → Int} {i j : Nat} {x : Int} (h : j ≠ i) : updI f i x j = f j := by simp [updI, h]
theorem updL_same (f : Nat → List (Bool × Nat)) (i : Nat) (x : List (Bool × Nat)) : updL f i x i = x := by simp [updL]
theorem updL_other {f : Nat → List (Bool × Nat)} {i j : Nat} {x : List (Bool × Nat)} (h : j ≠ i) : updL f i x j = f j := by simp [updL, h]
/-! the stores -/
section
variable {W : World} {B : Nat} {q : MQ}
theorem MAt.setTold (h : MAt W B q) (t : Nat) : MAt (W.setCell ⟨B, 24035, none⟩ (.int .i64 (t : Int))) B { q with told := t } := by
  have := RowAt.set h 24035 (.int .i64 (t : Int))
  rw [mA_set q { q with told := t } _ _ (fun j hj => ?_)] at this
  · exact this
  · rcases off_cases hj with rfl | rfl | rfl | ⟨p, f, hp, hf, rfl⟩ | ⟨s, k, f, hs, hk, hf, rfl⟩ | rfl
    · rfl
    · rfl
    · rfl
    · rw [if_neg (by omega), mv_acc _ p f hp hf, mv_acc _ p f hp hf]; rfl
    · rw [if_neg (by omega), mv_chg _ s k f hs hk hf, mv_chg _ s k f hs hk hf]
    · rw [if_pos rfl]; rfl
theorem mA_acc (q q' : MQ) (p f : Nat) (hp : p < 8) (hf : f < 4) (v : Value) (h0 : q'.win = q.win ∧ q'.pr = q.pr ∧ q'.np = q.np ∧ q'.told = q.told ∧ q'.sl = q.sl)
    (h : ∀ p' f', p' < 8 → f' < 4 → accV q' p' f' = if p' = p ∧ f' = f then v else accV q p' f') : (mA q).setIfInBounds (3 + p * 4 + f) v = mA q' := by
  refine mA_set q q' _ _ fun j hj => ?_
  obtain ⟨h1, h2, h3, h4, h5⟩ := h0
  rcases off_cases hj with rfl | rfl | rfl | ⟨p', f', hp', hf', rfl⟩ | ⟨s, k, f', hs, hk, hf', rfl⟩ | rfl
  · rw [if_neg (by omega)]; show Value.int .i64 (q'.win : Int) = _; rw [h1]; rfl
  · rw [if_neg (by omega)]; show Value.int .i64 (q'.pr : Int) = _; rw [h2]; rfl
  · rw [if_neg (by omega)]; show Value.int .i64 (q'.np : Int) = _; rw [h3]; rfl
  · rw [mv_acc _ p' f' hp' hf', mv_acc _ p' f' hp' hf', h p' f' hp' hf']
    by_cases e : p' = p ∧ f' = f
    · rw [if_pos e, if_pos (by omega)]
    · rw [if_neg e, if_neg (by omega)]
  · rw [if_neg (by omega), mv_chg _ s k f' hs hk hf', mv_chg _ s k f' hs hk hf', h5]
  · rw [if_neg (by omega), mv_told, mv_told, h4]
theorem MAt.setUse (h : MAt W B q) (p : Nat) (hp : p < 8) (x : Int) : MAt (W.setCell ⟨B, 3 + p * 4 + 2, none⟩ (.int .i64 x)) B { q with use := updI q.use p x } := by
  have := RowAt.set h (3 + p * 4 + 2) (.int .i64 x)
  rw [mA_acc q { q with use := updI q.use p x } p 2 hp (by omega) _ ⟨rfl, rfl, rfl, rfl, rfl⟩ (fun p' f' _ _ => ?_)] at this
  · exact this
  · rw [accV, accV]
    by_cases e0 : f' = 0
    · rw [if_pos e0, if_neg (by omega), if_pos e0]
    · rw [if_neg e0, if_neg e0]
      by_cases e1 : f' = 1
      · rw [if_pos e1, if_neg (by omega), if_pos e1]
      · rw [if_neg e1, if_neg e1]
        by_cases e2 : f' = 2
        · rw [if_pos e2, if_pos e2]
          by_cases e3 : p' = p
          · rw [if_pos ⟨e3, e2⟩, e3]
            show Value.int .i64 (updI q.use p x p) = _
            rw [updI_same]
          · rw [if_neg (by omega)]
            show Value.int .i64 (updI q.use p x p') = _
            rw [updI_other e3]
        · rw [if_neg e2, if_neg e2, if_neg (by omega)]
theorem MAt.setUcr (h : MAt W B q) (p : Nat) (hp : p < 8) (x : Int) : MAt (W.setCell ⟨B, 3 + p * 4 + 3, none⟩ (.int .i64 x)) B { q with ucr := updI q.ucr p x } := by
  have := RowAt.set h (3 + p * 4 + 3) (.int .i64 x)
  rw [mA_acc q { q with ucr := updI q.ucr p x } p 3 hp (by omega) _ ⟨rfl, rfl, rfl, rfl, rfl⟩ (fun p' f' _ _ => ?_)] at this
  · exact this
  · rw [accV, accV]
    by_cases e0 : f' = 0
    · rw [if_pos e0, if_neg (by omega), if_pos e0]
    · rw [if_neg e0, if_neg e0]
      by_cases e1 : f' = 1
      · rw [if_pos e1, if_neg (by omega), if_pos e1]
      · rw [if_neg e1, if_neg e1]
        by_cases e2 : f' = 2
        · rw [if_pos e2, if_pos e2, if_neg (by omega)]
        · rw [if_neg e2, if_neg e2]
          by_cases e3 : p' = p
          · rw [if_pos (by omega), e3]
            show Value.int .i64 (updI q.ucr p x p) = _
            rw [updI_same]
          · rw [if_neg (by omega)]
            show Value.int .i64 (updI q.ucr p x p') = _
            rw [updI_other e3]
/-- A row of cells, stored into the middle. -/
theorem row_setCells {B : Nat} {t : TypeId} : ∀ {vs : List Value} {o : Nat} {W : World} {cs : Array Value}, RowAt W B t cs → o + vs.length ≤ cs.size → ∃ cs', RowAt (W.setCells B o vs) B t cs' ∧ cs'.size = cs.size ∧ ∀ j, cs'[j]? = if o ≤ j ∧ j < o + vs.length then vs[j - o]? else cs[j]?
  | [], o, W, cs, h, _ => ⟨cs, h, rfl, fun j => by rw [if_neg (by simp)]⟩
  | v :: r, o, W, cs, h, hl => by
    rw [List.length_cons] at hl
    obtain ⟨cs', h1, h2, h3⟩ := row_setCells (vs := r) (o := o + 1) (h.set o v) (by rw [Array.size_setIfInBounds]; omega)
    refine ⟨cs', h1, by rw [h2, Array.size_setIfInBounds], fun j => ?_⟩
    rw [h3 j, List.length_cons, Array.getElem?_setIfInBounds]
    by_cases e : j = o
    · subst e
      rw [if_neg (by omega), if_pos rfl, if_pos (by omega), if_pos (by omega), Nat.sub_self]; rfl
    · by_cases e2 : o + 1 ≤ j ∧ j < o + 1 + r.length
      · rw [if_pos e2, if_pos (by omega), show j - o = (j - (o + 1)) + 1 from by omega, List.getElem?_cons_succ]
      · rw [if_neg e2, if_neg (by omega), if_neg (by omega)]
theorem fr_setCells {S : Nat → Prop} (W : World) (B o : Nat) (vs : List Value) (hB : S B) : Fr S W (W.setCells B o vs) := by
  induction vs generalizing o W with
  | nil => exact Fr.refl _ _
  | cons v r ih => exact (Fr.set W B o v hB).trans (ih _ _)
theorem mA_slot (q : MQ) (s k n : Nat) (l : List (Bool × Nat)) (vs : List Value) (hs : s < 1000) (hk : k + n ≤ 8) (hv : vs.length = n * 3) (W : World) (h : MAt W B q)
    (hin : ∀ j f, k ≤ j → j < k + n → f < 3 → vs[(j - k) * 3 + f]? = some (chgV l[j]? f)) (hout : ∀ j f, j < 8 → (j < k ∨ k + n ≤ j) → f < 3 → chgV l[j]? f = chgV (q.sl s)[j]? f) : MAt (W.setCells B (35 + s * 24 + k * 3) vs) B { q with sl := updL q.sl s l } := by
  obtain ⟨cs', h1, h2, h3⟩ := row_setCells (vs := vs) (o := 35 + s * 24 + k * 3) h (by rw [mA_size]; omega)
  have e : cs' = mA { q with sl := updL q.sl s l } := mA_ext (by rw [h2, mA_size]) fun j hj => by
    rw [h3 j]
    by_cases e : 35 + s * 24 + k * 3 ≤ j ∧ j < 35 + s * 24 + k * 3 + vs.length
    · rw [if_pos e]
      have := hin (k + (j - (35 + s * 24 + k * 3)) / 3) ((j - (35 + s * 24 + k * 3)) % 3) (by omega) (by omega) (by omega)
      rw [show (k + (j - (35 + s * 24 + k * 3)) / 3 - k) * 3 + (j - (35 + s * 24 + k * 3)) % 3 = j - (35 + s * 24 + k * 3) from by omega] at this
      have hm := mv_chg { q with sl := updL q.sl s l } s (k + (j - (35 + s * 24 + k * 3)) / 3) ((j - (35 + s * 24 + k * 3)) % 3) hs (by omega) (by omega)
      rw [show 35 + s * 24 + (k + (j - (35 + s * 24 + k * 3)) / 3) * 3 + (j - (35 + s * 24 + k * 3)) % 3 = j from by omega] at hm
      rw [this, hm]
      show _ = some (chgV (updL q.sl s l s)[_]? _)
      rw [updL_same]
    · rw [if_neg e, mA_get q j hj]
      rcases off_cases hj with rfl | rfl | rfl | ⟨p', f', hp', hf', rfl⟩ | ⟨s', k', f', hs', hk', hf', rfl⟩ | rfl
      · rfl
      · rfl
      · rfl
      · rw [mv_acc _ p' f' hp' hf', mv_acc _ p' f' hp' hf']; rfl
      · rw [mv_chg _ s' k' f' hs' hk' hf', mv_chg _ s' k' f' hs' hk' hf']
        show _ = some (chgV (updL q.sl s l s')[k']? f')
        by_cases es : s' = s
        · subst es
          rw [updL_same, hout k' f' hk' (by omega) hf']
        · rw [updL_other es]
      · rfl
  show RowAt _ _ _ (mA _)
  rw [← e]; exact h1
end
end Go.Proofs.YtjaaljcdaamcjaaGreat.Pa
