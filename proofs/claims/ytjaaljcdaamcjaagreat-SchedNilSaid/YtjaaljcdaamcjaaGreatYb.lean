/- The queue of ready threads as plain data: its cells. -/
import Derived.Test.YtjaaljcdaamcjaaGreatProg
import Derived.WalkKit
import Derived.Lib.Hide
import Derived.Below
import Derived.Deep.MidRow
import Derived.RangeFuncBox
import Derived.RangeFuncNested
namespace Go.Proofs.YtjaaljcdaamcjaaGreat.Rd
open Go.RowKit
set_option linter.unusedVariables false

/-- A block that holds these cells. -/
def RowAt (W : World) (B : Nat) (t : TypeId) (cs : Array Value) : Prop := W.heap[B]? = some (.cells cs t (0, 0))
theorem RowAt.lt {W : World} {B : Nat} {t : TypeId} {cs : Array Value} (h : RowAt W B t cs) : B < W.heap.size := (Array.getElem?_eq_some_iff.1 h).1
theorem RowAt.kept {W W' : World} {row : Option Nat} {B : Nat} {t : TypeId} {cs : Array Value} (h : RowAt W B t cs) (hg : W.grownBy W' row) (hne : some B ≠ row) : RowAt W' B t cs := (hg.block B h.lt hne).trans h
theorem RowAt.new (W : World) (t : TypeId) (cs : Array Value) : RowAt (W.alloc (.cells cs t)) W.heap.size t cs := World.alloc_heap_new W _
theorem RowAt.cell {W : World} {B : Nat} {t : TypeId} {cs : Array Value} (h : RowAt W B t cs) (i : Nat) : W.cell? ⟨B, i, none⟩ = cs[i]? := cell_of_row W B i cs t (0, 0) h
theorem RowAt.frozen {W : World} {B : Nat} {t : TypeId} {cs : Array Value} (h : RowAt W B t cs) (i : Nat) : W.frozen? ⟨B, i, none⟩ = false := frozen_of_row _ _ i _ _ h
theorem RowAt.set {W : World} {B : Nat} {t : TypeId} {cs : Array Value} (h : RowAt W B t cs) (i : Nat) (v : Value) : RowAt (W.setCell ⟨B, i, none⟩ v) B t (cs.setIfInBounds i v) := heap_setCell_same W _ _ _ _ _ h
theorem RowAt.below {W W' : World} {n₀ B : Nat} {t : TypeId} {cs : Array Value} (h : RowAt W B t cs) (hb : Below n₀ W W') (hlt : B < n₀) : RowAt W' B t cs := (hb.block B hlt).trans h
theorem RowAt.other {W : World} {B B' : Nat} {t : TypeId} {cs : Array Value} (h : RowAt W B t cs) (hne : B ≠ B') (i : Nat) (v : Value) : RowAt (W.setCell ⟨B', i, none⟩ v) B t cs := by
  show _ = _
  rw [heap_setCell_other _ _ _ _ hne]; exact h
theorem grown_set (W : World) (B i : Nat) (v : Value) : W.grownBy (W.setCell ⟨B, i, none⟩ v) (some B) :=
  ⟨rfl, rfl, rfl, by simp, fun k _ hk => heap_setCell_other _ _ _ _ (fun e => hk (by rw [e]))⟩
theorem grown_trans {A B C : World} {row : Option Nat} (h : A.grownBy B row) (k : B.grownBy C row) : A.grownBy C row :=
  ⟨k.os.trans h.os, k.tape.trans h.tape, k.output.trans h.output, Nat.le_trans h.size k.size, fun i hi hr => (k.block i (Nat.lt_of_lt_of_le hi h.size) hr).trans (h.block i hi hr)⟩
theorem grown_none {A B : World} {row : Option Nat} (h : A.grownBy B none) : A.grownBy B row := ⟨h.os, h.tape, h.output, h.size, fun i hi _ => h.block i hi (by simp)⟩
theorem grown_refl (W : World) (row : Option Nat) : W.grownBy W row := ⟨rfl, rfl, rfl, Nat.le_refl _, fun _ _ _ => rfl⟩
theorem grown_drew (W : World) (row : Option Nat) : W.grownBy W.drew row := ⟨rfl, rfl, rfl, Nat.le_refl _, fun _ _ _ => rfl⟩
theorem grown_below {A B : World} (h : Below A.heap.size A B) : A.grownBy B none := ⟨h.os, h.tape, h.output, h.size, fun i hi _ => h.block i hi⟩
theorem grown_alloc (W : World) (o : Obj) (row : Option Nat) : W.grownBy (W.alloc o) row := grown_none (World.grownBy_alloc W o none)

/-- What the queue holds. -/
structure QS where
  after : Nat → Nat
  before : Nat → Nat
  filled : Nat → Nat
  heads : Nat → Nat
  prio : Nat → Nat
  mask : Nat → Nat
  count : Nat
/-- The queue's cell at an offset. -/
def qv (q : QS) (i : Nat) : Value :=
  if i < 256 then .int .i64 (q.after i) else if i < 512 then .int .i64 (q.before (i - 256)) else if i < 516 then .int .u64 (q.filled (i - 512)) else
  if i < 772 then .int .i64 (q.heads (i - 516)) else if i < 1028 then .int .i64 (q.prio (i - 772)) else if i < 1284 then .int .i64 (q.mask (i - 1028)) else .int .i64 q.count
def qA (q : QS) : Array Value := ((List.range 1285).map (qv q)).toArray
theorem qA_get (q : QS) (i : Nat) (h : i < 1285) : (qA q)[i]? = some (qv q i) := by simp [qA, h]
theorem qA_size (q : QS) : (qA q).size = 1285 := by simp [qA]
theorem qA_set (q q' : QS) (i : Nat) (v : Value) (h : ∀ j, j < 1285 → qv q' j = if j = i then v else qv q j) : (qA q).setIfInBounds i v = qA q' := by
  apply Array.ext_getElem?
  intro j
  by_cases hj : j < 1285
  · rw [qA_get q' j hj, h j hj, Array.getElem?_setIfInBounds]
    by_cases e : i = j
    · subst e; simp [qA_size, hj]
    · rw [if_neg e, if_neg (fun x => e x.symm), qA_get q j hj]
  · rw [Array.getElem?_eq_none (by rw [Array.size_setIfInBounds, qA_size]; omega), Array.getElem?_eq_none (by rw [qA_size]; omega)]
def upd (f : Nat → Nat) (i x : Nat) : Nat → Nat := fun j => if j = i then x else f j
theorem upd_same (f : Nat → Nat) (i x : Nat) : upd f i x i = x := by simp [upd]
theorem upd_other {f : Nat → Nat} {i x j : Nat} (h : j ≠ i) : upd f i x j = f j := by simp [upd, h]

def QAt (W : World) (B : Nat) (q : QS) : Prop := RowAt W B 162 (qA q)
section
variable {W : World} {B : Nat} {q : QS}
theorem QAt.lt (h : QAt W B q) : B < W.heap.size := RowAt.lt h
theorem QAt.frozen (h : QAt W B q) (i : Nat) : W.frozen? ⟨B, i, none⟩ = false := RowAt.frozen h i
theorem QAt.kept {W' : World} {row : Option Nat} (h : QAt W B q) (hg : W.grownBy W' row) (hne : some B ≠ row) : QAt W' B q := RowAt.kept h hg hne
theorem QAt.after (h : QAt W B q) (i : Nat) (hi : i < 256) : W.cell? ⟨B, i, none⟩ = some (.int .i64 (q.after i)) := by rw [RowAt.cell h, qA_get q i (by omega), qv, if_pos hi]
theorem QAt.before (h : QAt W B q) (i : Nat) (hi : i < 256) : W.cell? ⟨B, 256 + i, none⟩ = some (.int .i64 (q.before i)) := by
  rw [RowAt.cell h, qA_get q _ (by omega), qv, if_neg (by omega), if_pos (by omega), show 256 + i - 256 = i from by omega]
theorem QAt.filled (h : QAt W B q) (i : Nat) (hi : i < 4) : W.cell? ⟨B, 512 + i, none⟩ = some (.int .u64 (q.filled i)) := by
  rw [RowAt.cell h, qA_get q _ (by omega), qv, if_neg (by omega), if_neg (by omega), if_pos (by omega), show 512 + i - 512 = i from by omega]
theorem QAt.heads (h : QAt W B q) (i : Nat) (hi : i < 256) : W.cell? ⟨B, 516 + i, none⟩ = some (.int .i64 (q.heads i)) := by
  rw [RowAt.cell h, qA_get q _ (by omega), qv, if_neg (by omega), if_neg (by omega), if_neg (by omega), if_pos (by omega), show 516 + i - 516 = i from by omega]
theorem QAt.prio (h : QAt W B q) (i : Nat) (hi : i < 256) : W.cell? ⟨B, 772 + i, none⟩ = some (.int .i64 (q.prio i)) := by
  rw [RowAt.cell h, qA_get q _ (by omega), qv, if_neg (by omega), if_neg (by omega), if_neg (by omega), if_neg (by omega), if_pos (by omega), show 772 + i - 772 = i from by omega]
theorem QAt.mask (h : QAt W B q) (i : Nat) (hi : i < 256) : W.cell? ⟨B, 1028 + i, none⟩ = some (.int .i64 (q.mask i)) := by
  rw [RowAt.cell h, qA_get q _ (by omega), qv, if_neg (by omega), if_neg (by omega), if_neg (by omega), if_neg (by omega), if_neg (by omega), if_pos (by omega), show 1028 + i - 1028 = i from by omega]
theorem QAt.count (h : QAt W B q) : W.cell? ⟨B, 1284, none⟩ = some (.int .i64 q.count) := by
  rw [RowAt.cell h, qA_get q _ (by omega), qv]; simp
theorem QAt.setAfter (h : QAt W B q) (i x : Nat) (hi : i < 256) : QAt (W.setCell ⟨B, i, none⟩ (.int .i64 x)) B { q with after := upd q.after i x } := by
  have e := qA_set q { q with after := upd q.after i x } i (.int .i64 x) (fun j hj => by simp only [qv, upd]; (repeat' split) <;> first | rfl | omega)
  show RowAt _ _ _ _
  rw [← e]; exact RowAt.set h _ _
theorem QAt.setBefore (h : QAt W B q) (i x : Nat) (hi : i < 256) : QAt (W.setCell ⟨B, 256 + i, none⟩ (.int .i64 x)) B { q with before := upd q.before i x } := by
  have e := qA_set q { q with before := upd q.before i x } (256 + i) (.int .i64 x) (fun j hj => by simp only [qv, upd]; (repeat' split) <;> first | rfl | omega)
  show RowAt _ _ _ _
  rw [← e]; exact RowAt.set h _ _
theorem QAt.setFilled (h : QAt W B q) (i x : Nat) (hi : i < 4) : QAt (W.setCell ⟨B, 512 + i, none⟩ (.int .u64 x)) B { q with filled := upd q.filled i x } := by
  have e := qA_set q { q with filled := upd q.filled i x } (512 + i) (.int .u64 x) (fun j hj => by simp only [qv, upd]; (repeat' split) <;> first | rfl | omega)
  show RowAt _ _ _ _
  rw [← e]; exact RowAt.set h _ _
theorem QAt.setHeads (h : QAt W B q) (i x : Nat) (hi : i < 256) : QAt (W.setCell ⟨B, 516 + i, none⟩ (.int .i64 x)) B { q with heads := upd q.heads i x } := by
  have e := qA_set q { q with heads := upd q.heads i x } (516 + i) (.int .i64 x) (fun j hj => by simp only [qv, upd]; (repeat' split) <;> first | rfl | omega)
  show RowAt _ _ _ _
  rw [← e]; exact RowAt.set h _ _
theorem QAt.setPrio (h : QAt W B q) (i x : Nat) (hi : i < 256) : QAt (W.setCell ⟨B, 772 + i, none⟩ (.int .i64 x)) B { q with prio := upd q.prio i x } := by
  have e := qA_set q { q with prio := upd q.prio i x } (772 + i) (.int .i64 x) (fun j hj => by simp only [qv, upd]; (repeat' split) <;> first | rfl | omega)
  show RowAt _ _ _ _
  rw [← e]; exact RowAt.set h _ _
theorem QAt.setMask (h : QAt W B q) (i x : Nat) (hi : i < 256) : QAt (W.setCell ⟨B, 1028 + i, none⟩ (.int .i64 x)) B { q with mask := upd q.mask i x } := by
  have e := qA_set q { q with mask := upd q.mask i x } (1028 + i) (.int .i64 x) (fun j hj => by simp only [qv, upd]; (repeat' split) <;> first | rfl | omega)
  show RowAt _ _ _ _
  rw [← e]; exact RowAt.set h _ _
theorem QAt.setCount (h : QAt W B q) (x : Nat) : QAt (W.setCell ⟨B, 1284, none⟩ (.int .i64 x)) B { q with count := x } := by
  have e := qA_set q { q with count := x } 1284 (.int .i64 x) (fun j hj => by simp only [qv]; (repeat' split) <;> first | rfl | omega)
  show RowAt _ _ _ _
  rw [← e]; exact RowAt.set h _ _
end
end Go.Proofs.YtjaaljcdaamcjaaGreat.Rd
