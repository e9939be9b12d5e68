/- Interrupts: blocks, frames, the map of attachments in memory. -/
import Derived.Test.YtbnchmhhhildnaaXa
import Derived.WalkKit
import Derived.Lib.Hide
import Derived.Below
import Derived.Deep.MidRow
import Derived.Deep.WholeRow
import Derived.Laws.Tables
import Derived.OwnWalk
import Derived.LoopTactic
import Derived.RegionTactic
import Derived.ChangeAlike
import Derived.Deep.QuietTactic
import Derived.BigQuiet
import Derived.IntWalk
import Derived.Deep.Cut
import Derived.Deep.RegionHeld3
import Derived.Deep.RegionHeldLaw
import Derived.Lib.QuietBelow
import Derived.Lib.SmallJoins
import Derived.Deep.SlicePairs
import Derived.Deep.LoopGhost
import Derived.WalkSmall
import Derived.Deep.DeepMust
import Derived.Laws.ResultCell
namespace Go.Proofs.Ytbnchmhhhildnaa
open Go.RowKit Go.Maps
set_option linter.unusedVariables false


/-- A block that holds these cells. -/
def RowAt (W : World) (B : Nat) (t : TypeId) (cs : Array Value) : Prop := W.heap[B]? = some (.cells cs t (0, 0))
theorem RowAt.lt {W : World} {B : Nat} {t : TypeId} {cs : Array Value} (h : RowAt W B t cs) : B < W.heap.size := (Array.getElem?_eq_some_iff.1 h).1
theorem RowAt.new (W : World) (t : TypeId) (cs : Array Value) : RowAt (W.alloc (.cells cs t)) W.heap.size t cs := heap_alloc_new W _
theorem RowAt.cell {W : World} {B : Nat} {t : TypeId} {cs : Array Value} (h : RowAt W B t cs) (i : Nat) : W.cell? ⟨B, i, none⟩ = cs[i]? := cell_of_row W B i cs t (0, 0) h
theorem RowAt.frozen {W : World} {B : Nat} {t : TypeId} {cs : Array Value} (h : RowAt W B t cs) (i : Nat) : W.frozen? ⟨B, i, none⟩ = false := frozen_of_row _ _ i _ _ h
theorem RowAt.set {W : World} {B : Nat} {t : TypeId} {cs : Array Value} (h : RowAt W B t cs) (i : Nat) (v : Value) : RowAt (W.setCell ⟨B, i, none⟩ v) B t (cs.setIfInBounds i v) := heap_setCell_same W _ _ _ _ _ h
theorem RowAt.below {W W' : World} {n₀ B : Nat} {t : TypeId} {cs : Array Value} (h : RowAt W B t cs) (hb : Below n₀ W W') (hlt : B < n₀) : RowAt W' B t cs := (hb.block B hlt).trans h
theorem RowAt.other {W : World} {B B' : Nat} {t : TypeId} {cs : Array Value} (h : RowAt W B t cs) (hne : B ≠ B') (i : Nat) (v : Value) : RowAt (W.setCell ⟨B', i, none⟩ v) B t cs := by
  show _ = _
  rw [heap_setCell_other _ _ _ _ hne]; exact h

/-- What is not in S is as it was. -/
structure Fr (S : Nat → Prop) (w w' : World) : Prop where
  os : w'.os = w.os
  tape : w'.tape = w.tape
  output : w'.output = w.output
  size : w.heap.size ≤ w'.heap.size
  block : ∀ k, k < w.heap.size → ¬ S k → w'.heap[k]? = w.heap[k]?
theorem Fr.refl (S : Nat → Prop) (w : World) : Fr S w w := ⟨rfl, rfl, rfl, Nat.le_refl _, fun _ _ _ => rfl⟩
theorem Fr.trans {S : Nat → Prop} {A B C : World} (h : Fr S A B) (k : Fr S B C) : Fr S A C :=
  ⟨k.os.trans h.os, k.tape.trans h.tape, k.output.trans h.output, Nat.le_trans h.size k.size, fun i hi hr => (k.block i (Nat.lt_of_lt_of_le hi h.size) hr).trans (h.block i hi hr)⟩
theorem Fr.mono {S T : Nat → Prop} {A B : World} (h : Fr S A B) (hs : ∀ k, k < A.heap.size → S k → T k) : Fr T A B := ⟨h.os, h.tape, h.output, h.size, fun k hk hr => h.block k hk fun e => hr (hs k hk e)⟩
theorem Fr.set {S : Nat → Prop} (W : World) (B i : Nat) (v : Value) (h : S B) : Fr S W (W.setCell ⟨B, i, none⟩ v) :=
  ⟨rfl, rfl, rfl, by simp, fun k _ hk => heap_setCell_other _ _ _ _ (fun e => hk (by rw [e]; exact h))⟩
theorem Fr.alloc (S : Nat → Prop) (W : World) (o : Obj) : Fr S W (W.alloc o) := ⟨rfl, rfl, rfl, by simp, fun k hk _ => heap_alloc_old _ _ hk⟩
theorem Fr.drew (S : Nat → Prop) (W : World) : Fr S W W.drew := ⟨rfl, rfl, rfl, Nat.le_refl _, fun _ _ _ => rfl⟩
theorem Fr.drewN (S : Nat → Prop) (W : World) (n : Nat) : Fr S W (W.drewN n) := ⟨rfl, rfl, rfl, Nat.le_refl _, fun _ _ _ => rfl⟩
theorem Fr.grown {S : Nat → Prop} {A B : World} {row : Option Nat} (h : A.grownBy B row) (hr : ∀ k, row = some k → S k) : Fr S A B := ⟨h.os, h.tape, h.output, h.size, fun k hk hs => h.block k hk fun e => hs (hr k e.symm)⟩
theorem Fr.below {S : Nat → Prop} {n : Nat} {A B C : World} (h : Below n A B) (k : Fr S B C) (hn : n ≤ B.heap.size) (hs : ∀ i, S i → n ≤ i) : Below n A C :=
  ⟨k.os.trans h.os, k.tape.trans h.tape, k.output.trans h.output, Nat.le_trans h.size k.size, fun i hi => (k.block i (by omega) fun e => by have := hs i e; omega).trans (h.block i hi)⟩
theorem Fr.toBelow {S : Nat → Prop} {A B : World} (h : Fr S A B) (hs : ∀ i, i < A.heap.size → ¬ S i) : Below A.heap.size A B := ⟨h.os, h.tape, h.output, h.size, fun i hi => h.block i hi (hs i hi)⟩
theorem RowAt.fr {W W' : World} {S : Nat → Prop} {B : Nat} {t : TypeId} {cs : Array Value} (h : RowAt W B t cs) (hg : Fr S W W') (hne : ¬ S B) : RowAt W' B t cs := (hg.block B h.lt hne).trans h
theorem Fr.setRow {S : Nat → Prop} (W : World) (B : Nat) (cs : Array Value) (h : S B) : Fr S W (W.setRow B cs) :=
  ⟨rfl, rfl, rfl, by simp, fun k _ hk => setRow_other _ _ _ _ (fun e => hk (by rw [e]; exact h))⟩


abbrev No : Nat → Prop := fun _ => False
theorem own_fr2 {W W' : World} {S : Nat → Prop} {base size : Nat} {t : TypeId} {v : Value} {n : Nat} {xs : List Value} (h : W.ownsRow base t size v n xs) (hf : Fr S W W') (hS : ∀ k, v.ownBlock = some k → ¬ S k) : W'.ownsRow base t size v n xs := by
  refine ⟨h.1, h.2.imp id fun ⟨g, cap, cur, h1, h2, h3, r⟩ => ⟨g, cap, cur, h1, h2, ?_, r⟩⟩
  rw [hf.block g (Array.getElem?_eq_some_iff.1 h3).1 (hS g (by rw [h1]; rfl))]; exact h3
theorem own_base {W : World} {lo base size : Nat} {t : TypeId} {v : Value} {n : Nat} {xs : List Value} (h : W.ownsRow base t size v n xs) (hlo : lo ≤ base) : W.ownsRow lo t size v n xs :=
  ⟨h.1, h.2.imp id fun ⟨g, cap, cur, h1, h2, r⟩ => ⟨g, cap, cur, h1, Nat.le_trans hlo h2, r⟩⟩
theorem fr_of_below {A B : World} (h : Below A.heap.size A B) : Fr No A B := ⟨h.os, h.tape, h.output, h.size, fun k hk _ => h.block k hk⟩
theorem Fr.any {S : Nat → Prop} {A B : World} (h : Fr No A B) : Fr S A B := h.mono fun _ _ f => f.elim
theorem Fr.over {S T : Nat → Prop} {A B C : World} (h : Fr S A B) (k : Fr T B C) (hs : ∀ i, T i → S i ∨ A.heap.size ≤ i) : Fr S A C :=
  ⟨k.os.trans h.os, k.tape.trans h.tape, k.output.trans h.output, Nat.le_trans h.size k.size, fun i hi hr => (k.block i (Nat.lt_of_lt_of_le hi h.size) fun e => by rcases hs i e with h | h; exact hr h; omega).trans (h.block i hi hr)⟩
/-- A load of a whole struct or array at a guarded operation that is wanted. -/
theorem wpList_load_mid_g {P : Program} {ops : Array Oper} {rest : List Oper} {op : Oper} {a : Act} {w : World} {Q : Exit → Act → World → Prop} (hgd : Region.wanted op (yielded ops a.tmps) = true) (ty : TypeId) (x : Operand) (ho : op.op = .load ty x)
    (b o : Nat) (hx : a.eval x = .pointer (some ⟨b, o, none⟩)) (cs : List Value) (d : TypeDesc) (hc : w.rangeAt b o cs)
    (hu : P.underlying ty = some d) (hd : d.isRow = true) (hi : (P.info? ty).map (·.size) = some cs.length)
    (h : wpList P ops Q rest (a.put op.dst (.agg cs.toArray)) w) : wpList P ops Q (op :: rest) a w := by
  rw [wpList, if_pos hgd]
  exact .inl (wp_load_mid ty x ho b o hx cs d hc hu hd hi h)
theorem RowAt.range {W : World} {B : Nat} {t : TypeId} {cs : Array Value} (h : RowAt W B t cs) : W.rangeAt B 0 cs.toList := fun j v hv => by rw [Nat.zero_add, RowAt.cell h]; simpa using hv

theorem results_row_tmp {P : Program} {fn : Func} {p q : Tmp} {ty : TypeId} (h : fn.results = #[.cell p ty, .tmp q]) (tmps : Array Value) (w : World) (g : Nat) (t : TypeId) (cs : Array Value) (d : TypeDesc) (v : Value)
    (hp : tmps.getD p undef = .pointer (some ⟨g, 0, none⟩)) (hg : w.heap[g]? = some (.cells cs t (0, 0)))
    (hu : P.underlying ty = some d) (hd : (match d with | .struct _ | .array _ _ => true | _ => false) = true) (hi : (P.info? ty).map (·.size) = some cs.size)
    (hq : tmps.getD q undef = v) :
    (results fn tmps).run P w = .ok (.tuple #[.agg cs, v]) w := by
  have hp' : tmps[p]?.getD undef = .pointer (some ⟨g, 0, none⟩) := by simpa using hp
  have hq' : tmps[q]?.getD undef = v := by simpa using hq
  simp [results, h, hp', hq', asAddr, run_loadVar_row w g t ty cs (0, 0) d hg hu hd hi]
/-- A store stands next. -/
theorem st_gate {P : Program} {ops : Array Oper} {rest : List Oper} {d : Option Tmp} {ty : TypeId} {x y : Operand} {t : TypeId} {pos : String} {af} {gd} {a : Act} {w : World} {Q : Exit → Act → World → Prop} (h : wpList P ops Q (⟨d, .store ty x y, t, pos, af, gd⟩ :: rest) a w) : wpList P ops Q (⟨d, .store ty x y, t, pos, af, gd⟩ :: rest) a w := h
/-- A load stands next. -/
theorem ld_gate {P : Program} {ops : Array Oper} {rest : List Oper} {d : Option Tmp} {ty : TypeId} {x : Operand} {t : TypeId} {pos : String} {af} {gd} {a : Act} {w : World} {Q : Exit → Act → World → Prop} (h : wpList P ops Q (⟨d, .load ty x, t, pos, af, gd⟩ :: rest) a w) : wpList P ops Q (⟨d, .load ty x, t, pos, af, gd⟩ :: rest) a w := h
theorem keyedI : Keyed Try.prog 3 := int_keyed Try.underlying3
theorem wf6 {x : Int} (h0 : -9223372036854775808 ≤ x) (h1 : x ≤ 9223372036854775807) : (Lit.int .i64 x).wf = true := by
  have hmin : IntKind.i64.min = -9223372036854775808 := rfl
  have hmax : IntKind.i64.max = 9223372036854775807 := rfl
  simp [Lit.wf]; omega
theorem key6 {x : Int} (h : (Lit.int .i64 x).wf = true) : keyOf Try.prog 3 (.int .i64 x) = some (kl x) := keyOf_int_mk Try.underlying3 h
theorem zeroTm (w : World) : (zeroValue 87).run Try.prog w = .ok (tmE tz) w := by kernel_rfl

/-- Block b is a map that holds these timers. -/
def TM (W : World) (b : Nat) (l : TS) : Prop := W.ownsMap Try.prog 3 tmR b l.length (Dof l)
theorem tight {W : World} {b n : Nat} {l : TS} (h : W.ownsMap Try.prog 3 tmR b n (Dof l)) : TM W b l := by
  obtain ⟨es, clock, hb, F, hs, hD⟩ := h
  refine ⟨es, clock, hb, F, ?_, hD⟩
  have e := congrArg Maps.size hD
  rw [dsize] at e
  rw [e]
  show _ ≤ List.length _
  rw [length_read]; exact Nat.le_refl _
theorem TM.lt {W : World} {b : Nat} {l : TS} (h : TM W b l) : b < W.heap.size := World.ownsMap.lt h
theorem TM.fr {W W' : World} {b : Nat} {l : TS} {S : Nat → Prop} (h : TM W b l) (hf : Fr S W W') (hS : ¬ S b) : TM W' b l := by
  have hl := h.lt
  obtain ⟨es, c, h1, h2⟩ := h
  exact ⟨es, c, (hf.block b hl hS).trans h1, h2⟩
theorem TM.new (W : World) : TM (W.alloc (.map #[] 0)) W.heap.size [] := World.ownsMap_made W _ _ _

theorem TM.look {W : World} {b : Nat} {l : TS} (h : TM W b l) {x : Int} (hx : (Lit.int .i64 x).wf = true) :
    (Instr.lookup 58 (.map (some b)) (.int .i64 x) false).run Try.prog W = .ok (tmE ((get l x).getD tz)) W := by
  obtain ⟨v, ps, hrun, hv⟩ := World.ownsMap.lookup h keyedI Try.underlying58 (zeroTm W) (tmR_mk tz) (key6 hx)
  obtain ⟨y, rfl, e⟩ := tmR_inv hv
  have e1 := congrArg Prod.fst e
  rw [datk] at e1
  rw [hrun, tmD_inj e1]
theorem TM.look_ok {W : World} {b : Nat} {l : TS} (h : TM W b l) {x : Int} (hx : (Lit.int .i64 x).wf = true) :
    (Instr.lookup 58 (.map (some b)) (.int .i64 x) true).run Try.prog W = .ok (.tuple #[tmE ((get l x).getD tz), .bool (get l x).isSome]) W := by
  obtain ⟨v, ps, hrun, hv⟩ := World.ownsMap.look_ok h keyedI Try.underlying58 (zeroTm W) (tmR_mk tz) (key6 hx)
  obtain ⟨y, rfl, e⟩ := tmR_inv hv
  have e1 := congrArg Prod.fst e
  rw [datk] at e1
  rw [hrun, dhas, tmD_inj e1]
theorem TM.put {W : World} {b : Nat} {l : TS} (h : TM W b l) (hs : SortedT l) (hn : l.length < 2000) {x : Int} (hx : (Lit.int .i64 x).wf = true) (t : Tm) :
    ∃ W', (Instr.mapUpdate 58 (.map (some b)) (.int .i64 x) (tmE t)).run Try.prog W = .ok () W' ∧ TM W' b (ins x t l) ∧ Fr (fun k => k = b) W W' := by
  obtain ⟨W', hrun, r1, r2⟩ := World.ownsMap.update h keyedI Try.underlying58 (by unfold maxLen; omega) (key6 hx) (tmR_mk t)
  rw [dput x t hs] at r1
  exact ⟨W', hrun, tight r1, Fr.grown r2 fun k e => by cases e; rfl⟩
theorem TM.drop {W : World} {b : Nat} {l : TS} (h : TM W b l) {x : Int} (hx : (Lit.int .i64 x).wf = true) (ty : TypeId) :
    ∃ W', (Builtin.delete_ #[58, 3] ty #[.map (some b), .int .i64 x]).run Try.prog W = .ok (.tuple #[]) W' ∧ TM W' b (del x l) ∧ Fr (fun k => k = b) W W' := by
  obtain ⟨W', hrun, r1, r2⟩ := World.ownsMap.drop h keyedI Try.underlying58 (key6 hx) ty
  rw [ddel x l] at r1
  exact ⟨W', hrun, tight r1, Fr.grown r2.grown fun k e => by cases e; rfl⟩
theorem TM.len {W : World} {b : Nat} {l : TS} (h : TM W b l) (ty : TypeId) : (Builtin.len_ #[58] ty #[.map (some b)]).run Try.prog W = .ok (.int .i64 (l.length : Nat)) W := by
  have := World.ownsMap.len h Try.underlying58 ty
  rwa [dsize] at this

theorem wpList_look {ops : Array Oper} {rest : List Oper} {o : Oper} {a : Act} {w : World} {Q : Exit → Act → World → Prop} (hg : o.guard = none) (m x : Operand) (t : TypeId) (c : Bool) (hop : o.op = Op.lookup t m x c)
    (mv xv : Value) (hm : a.eval m = mv) (hx : a.eval x = xv) (r : Value) (hr : (Instr.lookup t mv xv c).run Try.prog w = .ok r w) (hK : wpList Try.prog ops Q rest (a.put o.dst r) w) : wpList Try.prog ops Q (o :: rest) a w := by
  refine wpList_plain hg fun K' hK' => ?_
  unfold Oper.wp
  simp [execOp, hop, hm, hx, hr, Result.andThen]
  exact hK' _ _ hK
theorem wpList_upd {ops : Array Oper} {rest : List Oper} {o : Oper} {a : Act} {w w' : World} {Q : Exit → Act → World → Prop} (hg : o.guard = none) (m x v : Operand) (t : TypeId) (hop : o.op = Op.mapUpdate t m x v)
    (mv xv vv : Value) (hm : a.eval m = mv) (hx : a.eval x = xv) (hv : a.eval v = vv) (hr : (Instr.mapUpdate t mv xv vv).run Try.prog w = .ok () w') (hK : wpList Try.prog ops Q rest (a.put o.dst undef) w') : wpList Try.prog ops Q (o :: rest) a w := by
  refine wpList_plain hg fun K' hK' => ?_
  unfold Oper.wp
  simp [execOp, hop, hm, hx, hv, hr, Result.andThen]
  exact hK' _ _ hK
theorem wpList_bi1 {ops : Array Oper} {rest : List Oper} {o : Oper} {a : Act} {w w' : World} {Q : Exit → Act → World → Prop} (hg : o.guard = none) (m : Operand) (t : TypeId) (hop : o.op = Op.call { callee := Callee.builtin Builtin.len, args := #[m], argTypes := #[t] })
    (mv : Value) (hm : a.eval m = mv) (r : Value) (hr : ∀ ty, (Builtin.len_ #[t] ty #[mv]).run Try.prog w = .ok r w') (hK : wpList Try.prog ops Q rest (a.put o.dst r) w') : wpList Try.prog ops Q (o :: rest) a w := by
  refine wpList_plain hg fun K' hK' => ?_
  unfold Oper.wp
  simp [execOp, hop, resolve, invoke, builtin, hm, hr, Result.andThen]
  exact hK' _ _ hK
theorem wpList_bi2 {ops : Array Oper} {rest : List Oper} {o : Oper} {a : Act} {w w' : World} {Q : Exit → Act → World → Prop} (hg : o.guard = none) (m x : Operand) (t k : TypeId) (hop : o.op = Op.call { callee := Callee.builtin Builtin.delete, args := #[m, x], argTypes := #[t, k] })
    (mv xv : Value) (hm : a.eval m = mv) (hx : a.eval x = xv) (r : Value) (hr : ∀ ty, (Builtin.delete_ #[t, k] ty #[mv, xv]).run Try.prog w = .ok r w') (hK : wpList Try.prog ops Q rest (a.put o.dst r) w') : wpList Try.prog ops Q (o :: rest) a w := by
  refine wpList_plain hg fun K' hK' => ?_
  unfold Oper.wp
  simp [execOp, hop, resolve, invoke, builtin, hm, hx, hr, Result.andThen]
  exact hK' _ _ hK
end Go.Proofs.Ytbnchmhhhildnaa
