/- Package sched: the cells of a scheduler and of an entry; what the scheduler owns. -/
import Derived.Test.YtjaaljcdaamcjaaGreatDc
import Derived.Test.YtjaaljcdaamcjaaGreatMj
import Derived.Test.YtjaaljcdaamcjaaGreatYj
namespace Go.Proofs.YtjaaljcdaamcjaaGreat
open Go.RowKit Go.Proofs.YtjaaljcdaamcjaaGreat.Pa
set_option linter.unusedVariables false
set_option linter.unusedSimpArgs false

theorem Fr.over {S T : Nat → Prop} {A B C : World} (h : Fr S A B) (k : Fr T B C) (hs : ∀ i, T i → S i ∨ A.heap.size ≤ i) : Fr S A C :=
  ⟨k.os.trans h.os, k.tape.trans h.tape, k.output.trans h.output, Nat.le_trans h.size k.size, fun i hi hr => (k.block i (Nat.lt_of_lt_of_le hi h.size) fun e => by rcases hs i e with h | h; exact hr h; omega).trans (h.block i hi hr)⟩
def ptrV (o : Option Nat) : Value := .pointer (o.map fun b => ⟨b, 0, none⟩)
/-- Parameters: five numbers and a bool, and those of a server. -/
structure PS where
  pol : Int
  sli : Int
  msk : Int
  prt : Int
  cri : Bool
  sb : Int
  sp : Int
  sn : Int
  sl : Int
def PS.cells (p : PS) : Array Value := #[.int .i64 p.pol, .int .i64 p.sli, .int .i64 p.msk, .int .i64 p.prt, .bool p.cri, .int .i64 p.sb, .int .i64 p.sp, .int .i64 p.sn, .int .i64 p.sl]
structure En where
  num : Nat
  pri : Int
  rdy : Bool
  last : Int
  left : Int
  par : PS
def eA (e : En) (srv : Option Nat) : Array Value := #[.int .i64 (e.num : Int), .int .i64 e.pri, .bool e.rdy, .int .i64 e.last, .int .i64 e.left, .int .i64 e.par.pol, .int .i64 e.par.sli, .int .i64 e.par.msk, .int .i64 e.par.prt, .bool e.par.cri, .int .i64 e.par.sb, .int .i64 e.par.sp, .int .i64 e.par.sn, .int .i64 e.par.sl, ptrV srv]
/-- The scheduler's own cells. -/
structure ST where
  pr : Nat
  np : Nat
  mb : Nat
  th : Nat → Option Nat
  qb : Nat
  told : Nat
  chg : Int
def sv (s : ST) (i : Nat) : Value :=
  if i = 0 then .int .i64 (s.pr : Int) else if i = 1 then .int .i64 (s.np : Int) else if i = 2 then ptrV (some s.mb) else if i < 259 then ptrV (s.th (i - 3)) else if i = 259 then ptrV (some s.qb) else if i = 260 then .int .i64 (s.told : Int) else .int .i64 s.chg
def sA (s : ST) : Array Value := ((List.range 262).map (sv s)).toArray
theorem sA_get (s : ST) (i : Nat) (h : i < 262) : (sA s)[i]? = some (sv s i) := by simp [sA, h]
theorem sA_size (s : ST) : (sA s).size = 262 := by simp [sA]
theorem sA_ext {s : ST} {A : Array Value} (h0 : A.size = 262) (h : ∀ j, j < 262 → A[j]? = some (sv s j)) : A = sA s := by
  apply Array.ext_getElem?
  intro j
  by_cases hj : j < 262
  · rw [h j hj, sA_get s j hj]
  · rw [Array.getElem?_eq_none (by omega), Array.getElem?_eq_none (by rw [sA_size]; omega)]
theorem sA_set (s s' : ST) (i : Nat) (v : Value) (h : ∀ j, j < 262 → sv s' j = if j = i then v else sv s j) : (sA s).setIfInBounds i v = sA s' := by
  refine sA_ext (by simp [sA_size]) fun j hj => ?_
  rw [Array.getElem?_setIfInBounds, h j hj, sA_get s j hj]
  by_cases e : i = j
  · subst e
    rw [if_pos rfl, if_pos (by rw [sA_size]; exact hj), if_pos rfl]
  · rw [if_neg e, if_neg (fun x => e x.symm)]
def SAt (W : World) (B : Nat) (s : ST) : Prop := RowAt W B 89 (sA s)
section
variable {W : World} {B : Nat} {s : ST}
theorem SAt.lt (h : SAt W B s) : B < W.heap.size := RowAt.lt h
theorem SAt.frozen (h : SAt W B s) (i : Nat) : W.frozen? ⟨B, i, none⟩ = false := RowAt.frozen h i
theorem SAt.fr {W' : World} {S : Nat → Prop} (h : SAt W B s) (hg : Fr S W W') (hne : ¬ S B) : SAt W' B s := RowAt.fr h hg hne
theorem SAt.pr (h : SAt W B s) : W.cell? ⟨B, 0, none⟩ = some (.int .i64 (s.pr : Int)) := by rw [RowAt.cell h, sA_get s 0 (by omega)]; rfl
theorem SAt.np (h : SAt W B s) : W.cell? ⟨B, 1, none⟩ = some (.int .i64 (s.np : Int)) := by rw [RowAt.cell h, sA_get s 1 (by omega)]; rfl
theorem SAt.mb (h : SAt W B s) : W.cell? ⟨B, 2, none⟩ = some (.pointer (some ⟨s.mb, 0, none⟩)) := by rw [RowAt.cell h, sA_get s 2 (by omega)]; rfl
theorem SAt.th (h : SAt W B s) (t : Nat) (ht : t < 256) : W.cell? ⟨B, 3 + t, none⟩ = some (ptrV (s.th t)) := by
  rw [RowAt.cell h, sA_get s _ (by omega), sv, if_neg (by omega), if_neg (by omega), if_neg (by omega), if_pos (by omega), show 3 + t - 3 = t by omega]
theorem SAt.qb (h : SAt W B s) : W.cell? ⟨B, 259, none⟩ = some (.pointer (some ⟨s.qb, 0, none⟩)) := by rw [RowAt.cell h, sA_get s 259 (by omega)]; rfl
theorem SAt.told (h : SAt W B s) : W.cell? ⟨B, 260, none⟩ = some (.int .i64 (s.told : Int)) := by rw [RowAt.cell h, sA_get s 260 (by omega)]; rfl
theorem SAt.chg (h : SAt W B s) : W.cell? ⟨B, 261, none⟩ = some (.int .i64 s.chg) := by rw [RowAt.cell h, sA_get s 261 (by omega)]; rfl
def updO (f : Nat → Option Nat) (i : Nat) (x : Option Nat) : Nat → Option Nat := fun j => if j = i then x else f j
theorem updO_same (f : Nat → Option Nat) (i : Nat) (x : Option Nat) : updO f i x i = x := by simp [updO]
theorem updO_other {f : Nat → Option Nat} {i j : Nat} {x : Option Nat} (h : j ≠ i) : updO f i x j = f j := by simp [updO, h]
theorem SAt.setTh (h : SAt W B s) (t : Nat) (ht : t < 256) (o : Option Nat) : SAt (W.setCell ⟨B, 3 + t, none⟩ (ptrV o)) B { s with th := updO s.th t o } := by
  have := RowAt.set h (3 + t) (ptrV o)
  rw [sA_set s { s with th := updO s.th t o } (3 + t) (ptrV o) (fun j hj => by
    unfold sv updO
    by_cases e : j = 3 + t
    · subst e
      simp [show 3 + t - 3 = t by omega, show ¬ (3 + t = 0) by omega, show ¬ (3 + t = 1) by omega, show ¬ (3 + t = 2) by omega, show 3 + t < 259 by omega]
    · rw [if_neg e]
      by_cases e2 : j < 259
      · by_cases e3 : j = 0
        · simp [e3]
        · by_cases e4 : j = 1
          · simp [e4]
          · by_cases e5 : j = 2
            · simp [e5]
            · simp [e3, e4, e5, e2, show ¬ (j - 3 = t) by omega]
      · simp [e2])] at this
  exact this
theorem SAt.setTold (h : SAt W B s) (t : Nat) : SAt (W.setCell ⟨B, 260, none⟩ (.int .i64 (t : Int))) B { s with told := t } := by
  have := RowAt.set h 260 (.int .i64 (t : Int))
  rw [sA_set s { s with told := t } 260 (.int .i64 (t : Int)) (fun j hj => by
    unfold sv
    by_cases e : j = 260
    · subst e; rfl
    · rw [if_neg e]
      simp [e])] at this
  exact this
theorem SAt.setChg (h : SAt W B s) (t : Int) : SAt (W.setCell ⟨B, 261, none⟩ (.int .i64 t)) B { s with chg := t } := by
  have := RowAt.set h 261 (.int .i64 t)
  rw [sA_set s { s with chg := t } 261 (.int .i64 t) (fun j hj => by
    unfold sv
    by_cases e : j = 261
    · subst e; rfl
    · rw [if_neg e]
      by_cases e2 : j < 259
      · simp [e2]
      · by_cases e3 : j = 259
        · simp [e3]
        · have : j = 260 := by omega
          simp [this])] at this
  exact this
end
def st0 : ST := ⟨0, 0, 0, fun _ => none, 0, 0, 0⟩
def zeroA : Array Value := ((List.range 262).map fun j => if j < 2 then Value.int .i64 0 else if j < 260 then .pointer none else .int .i64 0).toArray
set_option maxRecDepth 100000 in
theorem new_cells (pr np mb qb : Nat) : (((((Tryz.zeroCells89.setIfInBounds 0 (.int .i64 (pr : Int))).setIfInBounds 1 (.int .i64 (np : Int))).setIfInBounds 2 (.pointer (some ⟨mb, 0, none⟩))).setIfInBounds 259 (.pointer (some ⟨qb, 0, none⟩))).setIfInBounds 261 (.int .i64 (-1))) = sA ⟨pr, np, mb, fun _ => none, qb, 0, -1⟩ := by
  have hZ : Tryz.zeroCells89 = zeroA := by kernel_rfl
  rw [hZ]
  have h0 : zeroA.size = 262 := by simp [zeroA]
  have hz : ∀ j, j < 262 → zeroA[j]? = some (if j < 2 then .int .i64 0 else if j < 260 then .pointer none else .int .i64 0) := fun j hj => by simp [zeroA, hj]
  refine sA_ext (by simp [h0]) fun j hj => ?_
  simp only [Array.getElem?_setIfInBounds, Array.size_setIfInBounds, h0, hz j hj]
  unfold sv
  by_cases e1 : j = 0
  · simp [e1]
  by_cases e2 : j = 1
  · simp [e2]
  by_cases e3 : j = 2
  · simp [e3, ptrV]
  by_cases e4 : j = 259
  · simp [e4, ptrV]
  by_cases e5 : j = 261
  · simp [e5]
  by_cases e6 : j = 260
  · simp [e6]
  have e7 : j < 259 := by omega
  simp [e1, e2, e3, e4, e5, e6, e7, show ¬ (261 = j) by omega, show ¬ (259 = j) by omega, show ¬ (2 = j) by omega, show ¬ (1 = j) by omega, show ¬ (0 = j) by omega, ptrV, show ¬ (j < 2) by omega, show j < 260 by omega]
end Go.Proofs.YtjaaljcdaamcjaaGreat
