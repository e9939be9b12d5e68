/- Blocks, frames of several blocks, and the cells of a sporadic server. -/
import Derived.Test.YtibmmonboeifhaaProg
import Derived.WalkKit
import Derived.Lib.Hide
import Derived.Below
import Derived.Deep.MidRow
import Derived.Deep.WholeRow
import Derived.Laws.Tables
import Derived.OwnWalk
import Derived.LoopTactic
import Derived.RegionTactic
import Derived.ChangeAlike
import Derived.Deep.QuietTactic
import Derived.BigQuiet
import Derived.IntWalk
namespace Go.Proofs.Ytibmmonboeifhaa
open Go.RowKit
set_option linter.unusedVariables false

/-- A block that holds these cells. -/
def RowAt (W : World) (B : Nat) (t : TypeId) (cs : Array Value) : Prop := W.heap[B]? = some (.cells cs t (0, 0))
theorem RowAt.lt {W : World} {B : Nat} {t : TypeId} {cs : Array Value} (h : RowAt W B t cs) : B < W.heap.size := (Array.getElem?_eq_some_iff.1 h).1
theorem RowAt.new (W : World) (t : TypeId) (cs : Array Value) : RowAt (W.alloc (.cells cs t)) W.heap.size t cs := heap_alloc_new W _
theorem RowAt.cell {W : World} {B : Nat} {t : TypeId} {cs : Array Value} (h : RowAt W B t cs) (i : Nat) : W.cell? ⟨B, i, none⟩ = cs[i]? := cell_of_row W B i cs t (0, 0) h
theorem RowAt.frozen {W : World} {B : Nat} {t : TypeId} {cs : Array Value} (h : RowAt W B t cs) (i : Nat) : W.frozen? ⟨B, i, none⟩ = false := frozen_of_row _ _ i _ _ h
theorem RowAt.set {W : World} {B : Nat} {t : TypeId} {cs : Array Value} (h : RowAt W B t cs) (i : Nat) (v : Value) : RowAt (W.setCell ⟨B, i, none⟩ v) B t (cs.setIfInBounds i v) := heap_setCell_same W _ _ _ _ _ h
theorem RowAt.below {W W' : World} {n₀ B : Nat} {t : TypeId} {cs : Array Value} (h : RowAt W B t cs) (hb : Below n₀ W W') (hlt : B < n₀) : RowAt W' B t cs := (hb.block B hlt).trans h
theorem RowAt.other {W : World} {B B' : Nat} {t : TypeId} {cs : Array Value} (h : RowAt W B t cs) (hne : B ≠ B') (i : Nat) (v : Value) : RowAt (W.setCell ⟨B', i, none⟩ v) B t cs := by
  show _ = _
  rw [heap_setCell_other _ _ _ _ hne]; exact h

/-- What is not in S is as it was. -/
structure Fr (S : Nat → Prop) (w w' : World) : Prop where
  os : w'.os = w.os
  tape : w'.tape = w.tape
  output : w'.output = w.output
  size : w.heap.size ≤ w'.heap.size
  block : ∀ k, k < w.heap.size → ¬ S k → w'.heap[k]? = w.heap[k]?
theorem Fr.refl (S : Nat → Prop) (w : World) : Fr S w w := ⟨rfl, rfl, rfl, Nat.le_refl _, fun _ _ _ => rfl⟩
theorem Fr.trans {S : Nat → Prop} {A B C : World} (h : Fr S A B) (k : Fr S B C) : Fr S A C :=
  ⟨k.os.trans h.os, k.tape.trans h.tape, k.output.trans h.output, Nat.le_trans h.size k.size, fun i hi hr => (k.block i (Nat.lt_of_lt_of_le hi h.size) hr).trans (h.block i hi hr)⟩
theorem Fr.mono {S T : Nat → Prop} {A B : World} (h : Fr S A B) (hs : ∀ k, k < A.heap.size → S k → T k) : Fr T A B := ⟨h.os, h.tape, h.output, h.size, fun k hk hr => h.block k hk fun e => hr (hs k hk e)⟩
theorem Fr.set {S : Nat → Prop} (W : World) (B i : Nat) (v : Value) (h : S B) : Fr S W (W.setCell ⟨B, i, none⟩ v) :=
  ⟨rfl, rfl, rfl, by simp, fun k _ hk => heap_setCell_other _ _ _ _ (fun e => hk (by rw [e]; exact h))⟩
theorem Fr.alloc (S : Nat → Prop) (W : World) (o : Obj) : Fr S W (W.alloc o) := ⟨rfl, rfl, rfl, by simp, fun k hk _ => heap_alloc_old _ _ hk⟩
theorem Fr.drew (S : Nat → Prop) (W : World) : Fr S W W.drew := ⟨rfl, rfl, rfl, Nat.le_refl _, fun _ _ _ => rfl⟩
theorem Fr.drewN (S : Nat → Prop) (W : World) (n : Nat) : Fr S W (W.drewN n) := ⟨rfl, rfl, rfl, Nat.le_refl _, fun _ _ _ => rfl⟩
theorem Fr.grown {S : Nat → Prop} {A B : World} {row : Option Nat} (h : A.grownBy B row) (hr : ∀ k, row = some k → S k) : Fr S A B := ⟨h.os, h.tape, h.output, h.size, fun k hk hs => h.block k hk fun e => hs (hr k e.symm)⟩
theorem Fr.below {S : Nat → Prop} {n : Nat} {A B C : World} (h : Below n A B) (k : Fr S B C) (hn : n ≤ B.heap.size) (hs : ∀ i, S i → n ≤ i) : Below n A C :=
  ⟨k.os.trans h.os, k.tape.trans h.tape, k.output.trans h.output, Nat.le_trans h.size k.size, fun i hi => (k.block i (by omega) fun e => by have := hs i e; omega).trans (h.block i hi)⟩
theorem Fr.toBelow {S : Nat → Prop} {A B : World} (h : Fr S A B) (hs : ∀ i, i < A.heap.size → ¬ S i) : Below A.heap.size A B := ⟨h.os, h.tape, h.output, h.size, fun i hi => h.block i hi (hs i hi)⟩
theorem RowAt.fr {W W' : World} {S : Nat → Prop} {B : Nat} {t : TypeId} {cs : Array Value} (h : RowAt W B t cs) (hg : Fr S W W') (hne : ¬ S B) : RowAt W' B t cs := (hg.block B h.lt hne).trans h
theorem Fr.setRow {S : Nat → Prop} (W : World) (B : Nat) (cs : Array Value) (h : S B) : Fr S W (W.setRow B cs) :=
  ⟨rfl, rfl, rfl, by simp, fun k _ hk => setRow_other _ _ _ _ (fun e => hk (by rw [e]; exact h))⟩

/-- A server, as it lies in memory. -/
structure SQ where
  per : Int
  low : Int
  bud : Int
  G : Nat
  cap : Nat
  front : Nat
  count : Nat
  chk : Int
  ran : Int
  told : Int
  pl : Nat → Int × Int
def sCells (q : SQ) : Array Value := #[.int .i64 q.per, .int .i64 q.low, .int .i64 q.bud, .slice (some ⟨q.G, 0, none⟩) q.cap q.cap, .int .i64 (q.front : Int), .int .i64 (q.count : Int), .int .i64 q.chk, .int .i64 q.ran, .int .i64 q.told,
  .func (.func 60) #[] #[], .func (.func 61) #[] #[]]
/-- The places' cell at an offset. -/
def plV (pl : Nat → Int × Int) (i : Nat) : Value := if i % 2 = 0 then .int .i64 (pl (i / 2)).1 else .int .i64 (pl (i / 2)).2
def plA (cap : Nat) (pl : Nat → Int × Int) : Array Value := ((List.range (cap * 2)).map (plV pl)).toArray
theorem plA_get (cap : Nat) (pl : Nat → Int × Int) (i : Nat) (h : i < cap * 2) : (plA cap pl)[i]? = some (plV pl i) := by simp [plA, h]
theorem plA_size (cap : Nat) (pl : Nat → Int × Int) : (plA cap pl).size = cap * 2 := by simp [plA]
theorem plA_set (cap : Nat) (pl pl' : Nat → Int × Int) (i : Nat) (v : Value) (h : ∀ j, j < cap * 2 → plV pl' j = if j = i then v else plV pl j) : (plA cap pl).setIfInBounds i v = plA cap pl' := by
  apply Array.ext_getElem?
  intro j
  by_cases hj : j < cap * 2
  · rw [plA_get cap pl' j hj, h j hj, Array.getElem?_setIfInBounds]
    by_cases e : i = j
    · subst e; simp [plA_size, hj]
    · rw [if_neg e, if_neg (fun x => e x.symm), plA_get cap pl j hj]
  · rw [Array.getElem?_eq_none (by rw [Array.size_setIfInBounds, plA_size]; omega), Array.getElem?_eq_none (by rw [plA_size]; omega)]
def updP (pl : Nat → Int × Int) (j : Nat) (x : Int × Int) : Nat → Int × Int := fun i => if i = j then x else pl i
theorem updP_same (pl : Nat → Int × Int) (j : Nat) (x : Int × Int) : updP pl j x j = x := by simp [updP]
theorem updP_other {pl : Nat → Int × Int} {j i : Nat} {x : Int × Int} (h : i ≠ j) : updP pl j x i = pl i := by simp [updP, h]
theorem plA_set1 (cap : Nat) (pl : Nat → Int × Int) (j : Nat) (t : Int) : (plA cap pl).setIfInBounds (j * 2) (.int .i64 t) = plA cap (updP pl j (t, (pl j).2)) :=
  plA_set _ _ _ _ _ fun k hk => by
    simp only [plV, updP]
    by_cases e : k = j * 2
    · subst e; simp
    · rw [if_neg e]
      split
      · rw [if_neg (by omega)]
      · split
        · rename_i h; rw [h]
        · rfl
theorem plA_set2 (cap : Nat) (pl : Nat → Int × Int) (j : Nat) (a : Int) : (plA cap pl).setIfInBounds (j * 2 + 1) (.int .i64 a) = plA cap (updP pl j ((pl j).1, a)) :=
  plA_set _ _ _ _ _ fun k hk => by
    simp only [plV, updP]
    by_cases e : k = j * 2 + 1
    · subst e
      rw [if_pos rfl, if_neg (by omega), if_pos (by omega)]
    · rw [if_neg e]
      split
      · split
        · rename_i h; rw [h]
        · rfl
      · rw [if_neg (by omega)]

/-- The server at B. -/
structure SAt (W : World) (B : Nat) (q : SQ) : Prop where
  row : RowAt W B 101 (sCells q)
  pla : RowAt W q.G 75 (plA q.cap q.pl)
  ne : B ≠ q.G
  cap0 : 0 < q.cap
  cap32 : q.cap ≤ 32
  fr : q.front < q.cap
  cnt : q.count ≤ q.cap
section
variable {W : World} {B : Nat} {q : SQ}
theorem SAt.p1 (h : SAt W B q) (j : Nat) (hj : j < q.cap) : W.cell? ⟨q.G, j * 2, none⟩ = some (.int .i64 (q.pl j).1) := by
  rw [h.pla.cell, plA_get _ _ _ (by omega), plV, if_pos (by omega), show j * 2 / 2 = j from by omega]
theorem SAt.p2 (h : SAt W B q) (j : Nat) (hj : j < q.cap) : W.cell? ⟨q.G, j * 2 + 1, none⟩ = some (.int .i64 (q.pl j).2) := by
  rw [h.pla.cell, plA_get _ _ _ (by omega), plV, if_neg (by omega), show (j * 2 + 1) / 2 = j from by omega]
theorem SAt.keep {W' : World} {S : Nat → Prop} (h : SAt W B q) (hg : Fr S W W') (h1 : ¬ S B) (h2 : ¬ S q.G) : SAt W' B q := ⟨h.row.fr hg h1, h.pla.fr hg h2, h.ne, h.cap0, h.cap32, h.fr, h.cnt⟩
theorem SAt.rest {W' : World} (h : SAt W B q) (hg : Fr (fun _ => False) W W') : SAt W' B q := h.keep hg id id
/-- A store into the server's own block. -/
theorem SAt.set (h : SAt W B q) (i : Nat) (v : Value) (q' : SQ) (hc : (sCells q).setIfInBounds i v = sCells q') (hG : q'.G = q.G) (hp : q'.pl = q.pl) (hca : q'.cap = q.cap) (hf : q'.front < q.cap) (hn : q'.count ≤ q.cap) : SAt (W.setCell ⟨B, i, none⟩ v) B q' :=
  ⟨by rw [← hc]; exact h.row.set i v, by rw [hG, hp, hca]; exact h.pla.other (Ne.symm h.ne) i v, by rw [hG]; exact h.ne, by rw [hca]; exact h.cap0, by rw [hca]; exact h.cap32, by rw [hca]; exact hf, by rw [hca]; exact hn⟩
end
end Go.Proofs.Ytibmmonboeifhaa
