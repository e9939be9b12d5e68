/- Blocks, frames of several blocks; a graph as it lies in memory; isPriority, has, joins. -/
import Derived.Test.YteikipiigbjgbaaGa
import Derived.Test.YteikipiigbjgbaaProg
import Derived.WalkKit
import Derived.Lib.Hide
import Derived.Below
import Derived.Deep.MidRow
import Derived.Deep.WholeRow
import Derived.Laws.Tables
import Derived.OwnWalk
import Derived.LoopTactic
import Derived.RegionTactic
import Derived.ChangeAlike
import Derived.Deep.QuietTactic
import Derived.BigQuiet
import Derived.IntWalk
import Derived.Deep.Cut
namespace Go.Proofs.Yteikipiigbjgbaa
open Go.RowKit
set_option linter.unusedVariables false

/-- A block that holds these cells. -/
def RowAt (W : World) (B : Nat) (t : TypeId) (cs : Array Value) : Prop := W.heap[B]? = some (.cells cs t (0, 0))
theorem RowAt.lt {W : World} {B : Nat} {t : TypeId} {cs : Array Value} (h : RowAt W B t cs) : B < W.heap.size := (Array.getElem?_eq_some_iff.1 h).1
theorem RowAt.new (W : World) (t : TypeId) (cs : Array Value) : RowAt (W.alloc (.cells cs t)) W.heap.size t cs := heap_alloc_new W _
theorem RowAt.cell {W : World} {B : Nat} {t : TypeId} {cs : Array Value} (h : RowAt W B t cs) (i : Nat) : W.cell? ⟨B, i, none⟩ = cs[i]? := cell_of_row W B i cs t (0, 0) h
theorem RowAt.frozen {W : World} {B : Nat} {t : TypeId} {cs : Array Value} (h : RowAt W B t cs) (i : Nat) : W.frozen? ⟨B, i, none⟩ = false := frozen_of_row _ _ i _ _ h
theorem RowAt.set {W : World} {B : Nat} {t : TypeId} {cs : Array Value} (h : RowAt W B t cs) (i : Nat) (v : Value) : RowAt (W.setCell ⟨B, i, none⟩ v) B t (cs.setIfInBounds i v) := heap_setCell_same W _ _ _ _ _ h
theorem RowAt.below {W W' : World} {n₀ B : Nat} {t : TypeId} {cs : Array Value} (h : RowAt W B t cs) (hb : Below n₀ W W') (hlt : B < n₀) : RowAt W' B t cs := (hb.block B hlt).trans h
theorem RowAt.other {W : World} {B B' : Nat} {t : TypeId} {cs : Array Value} (h : RowAt W B t cs) (hne : B ≠ B') (i : Nat) (v : Value) : RowAt (W.setCell ⟨B', i, none⟩ v) B t cs := by
  show _ = _
  rw [heap_setCell_other _ _ _ _ hne]; exact h

/-- What is not in S is as it was. -/
structure Fr (S : Nat → Prop) (w w' : World) : Prop where
  os : w'.os = w.os
  tape : w'.tape = w.tape
  output : w'.output = w.output
  size : w.heap.size ≤ w'.heap.size
  block : ∀ k, k < w.heap.size → ¬ S k → w'.heap[k]? = w.heap[k]?
theorem Fr.refl (S : Nat → Prop) (w : World) : Fr S w w := ⟨rfl, rfl, rfl, Nat.le_refl _, fun _ _ _ => rfl⟩
theorem Fr.trans {S : Nat → Prop} {A B C : World} (h : Fr S A B) (k : Fr S B C) : Fr S A C :=
  ⟨k.os.trans h.os, k.tape.trans h.tape, k.output.trans h.output, Nat.le_trans h.size k.size, fun i hi hr => (k.block i (Nat.lt_of_lt_of_le hi h.size) hr).trans (h.block i hi hr)⟩
theorem Fr.mono {S T : Nat → Prop} {A B : World} (h : Fr S A B) (hs : ∀ k, k < A.heap.size → S k → T k) : Fr T A B := ⟨h.os, h.tape, h.output, h.size, fun k hk hr => h.block k hk fun e => hr (hs k hk e)⟩
theorem Fr.set {S : Nat → Prop} (W : World) (B i : Nat) (v : Value) (h : S B) : Fr S W (W.setCell ⟨B, i, none⟩ v) :=
  ⟨rfl, rfl, rfl, by simp, fun k _ hk => heap_setCell_other _ _ _ _ (fun e => hk (by rw [e]; exact h))⟩
theorem Fr.alloc (S : Nat → Prop) (W : World) (o : Obj) : Fr S W (W.alloc o) := ⟨rfl, rfl, rfl, by simp, fun k hk _ => heap_alloc_old _ _ hk⟩
theorem Fr.drew (S : Nat → Prop) (W : World) : Fr S W W.drew := ⟨rfl, rfl, rfl, Nat.le_refl _, fun _ _ _ => rfl⟩
theorem Fr.drewN (S : Nat → Prop) (W : World) (n : Nat) : Fr S W (W.drewN n) := ⟨rfl, rfl, rfl, Nat.le_refl _, fun _ _ _ => rfl⟩
theorem Fr.grown {S : Nat → Prop} {A B : World} {row : Option Nat} (h : A.grownBy B row) (hr : ∀ k, row = some k → S k) : Fr S A B := ⟨h.os, h.tape, h.output, h.size, fun k hk hs => h.block k hk fun e => hs (hr k e.symm)⟩
theorem Fr.below {S : Nat → Prop} {n : Nat} {A B C : World} (h : Below n A B) (k : Fr S B C) (hn : n ≤ B.heap.size) (hs : ∀ i, S i → n ≤ i) : Below n A C :=
  ⟨k.os.trans h.os, k.tape.trans h.tape, k.output.trans h.output, Nat.le_trans h.size k.size, fun i hi => (k.block i (by omega) fun e => by have := hs i e; omega).trans (h.block i hi)⟩
theorem Fr.toBelow {S : Nat → Prop} {A B : World} (h : Fr S A B) (hs : ∀ i, i < A.heap.size → ¬ S i) : Below A.heap.size A B := ⟨h.os, h.tape, h.output, h.size, fun i hi => h.block i hi (hs i hi)⟩
theorem RowAt.fr {W W' : World} {S : Nat → Prop} {B : Nat} {t : TypeId} {cs : Array Value} (h : RowAt W B t cs) (hg : Fr S W W') (hne : ¬ S B) : RowAt W' B t cs := (hg.block B h.lt hne).trans h
theorem Fr.setRow {S : Nat → Prop} (W : World) (B : Nat) (cs : Array Value) (h : S B) : Fr S W (W.setRow B cs) :=
  ⟨rfl, rfl, rfl, by simp, fun k _ hk => setRow_other _ _ _ _ (fun e => hk (by rw [e]; exact h))⟩


abbrev No : Nat → Prop := fun _ => False
theorem own_fr2 {W W' : World} {S : Nat → Prop} {base size : Nat} {t : TypeId} {v : Value} {n : Nat} {xs : List Value} (h : W.ownsRow base t size v n xs) (hf : Fr S W W') (hS : ∀ k, v.ownBlock = some k → ¬ S k) : W'.ownsRow base t size v n xs := by
  refine ⟨h.1, h.2.imp id fun ⟨g, cap, cur, h1, h2, h3, r⟩ => ⟨g, cap, cur, h1, h2, ?_, r⟩⟩
  rw [hf.block g (Array.getElem?_eq_some_iff.1 h3).1 (hS g (by rw [h1]; rfl))]; exact h3
theorem own_base {W : World} {lo base size : Nat} {t : TypeId} {v : Value} {n : Nat} {xs : List Value} (h : W.ownsRow base t size v n xs) (hlo : lo ≤ base) : W.ownsRow lo t size v n xs :=
  ⟨h.1, h.2.imp id fun ⟨g, cap, cur, h1, h2, r⟩ => ⟨g, cap, cur, h1, Nat.le_trans hlo h2, r⟩⟩
theorem fr_of_below {A B : World} (h : Below A.heap.size A B) : Fr No A B := ⟨h.os, h.tape, h.output, h.size, fun k hk _ => h.block k hk⟩
theorem Fr.any {S : Nat → Prop} {A B : World} (h : Fr No A B) : Fr S A B := h.mono fun _ _ f => f.elim

/-! numbers and edges, as slices hold them -/
def NumsAt (w : World) (b off : Nat) (l : List Int) : Prop := b < w.heap.size ∧ ∀ i x, l[i]? = some x → w.cell? ⟨b, off + i, none⟩ = some (.int .i64 x)
def NumsIn (w : World) (a : Option Addr) (l : List Int) : Prop := l = [] ∨ ∃ b off, a = some ⟨b, off, none⟩ ∧ NumsAt w b off l
abbrev Raw := List (Int × Int)
def EdgesAt (w : World) (b off : Nat) (l : Raw) : Prop := b < w.heap.size ∧ ∀ i x, l[i]? = some x → w.cell? ⟨b, off + i * 2, none⟩ = some (.int .i64 x.1) ∧ w.cell? ⟨b, off + i * 2 + 1, none⟩ = some (.int .i64 x.2)
def EdgesIn (w : World) (a : Option Addr) (l : Raw) : Prop := l = [] ∨ ∃ b off, a = some ⟨b, off, none⟩ ∧ EdgesAt w b off l
theorem NumsIn.fr {w w' : World} {a : Option Addr} {l : List Int} {S : Nat → Prop} (h : NumsIn w a l) (hf : Fr S w w') (hS : ∀ b off, a = some ⟨b, off, none⟩ → ¬ S b) : NumsIn w' a l := by
  rcases h with h | ⟨b, off, rfl, h1, h2⟩
  · exact .inl h
  · exact .inr ⟨b, off, rfl, Nat.lt_of_lt_of_le h1 hf.size, fun i x hx => (World.cell?_of_block (hf.block b h1 (hS b off rfl))).trans (h2 i x hx)⟩
theorem EdgesIn.fr {w w' : World} {a : Option Addr} {l : Raw} {S : Nat → Prop} (h : EdgesIn w a l) (hf : Fr S w w') (hS : ∀ b off, a = some ⟨b, off, none⟩ → ¬ S b) : EdgesIn w' a l := by
  rcases h with h | ⟨b, off, rfl, h1, h2⟩
  · exact .inl h
  · refine .inr ⟨b, off, rfl, Nat.lt_of_lt_of_le h1 hf.size, fun i x hx => ?_⟩
    have hb := hf.block b h1 (hS b off rfl)
    obtain ⟨e1, e2⟩ := h2 i x hx
    exact ⟨(World.cell?_of_block hb).trans e1, (World.cell?_of_block hb).trans e2⟩
theorem NumsIn.no {w w' : World} {a : Option Addr} {l : List Int} (h : NumsIn w a l) (hf : Fr No w w') : NumsIn w' a l := h.fr hf fun _ _ _ => id
theorem EdgesIn.no {w w' : World} {a : Option Addr} {l : Raw} (h : EdgesIn w a l) (hf : Fr No w w') : EdgesIn w' a l := h.fr hf fun _ _ _ => id
theorem NumsIn.get {w : World} {a : Option Addr} {l : List Int} {i : Nat} (h : NumsIn w a l) (hi : i < l.length) : ∃ b off, a = some ⟨b, off, none⟩ ∧ b < w.heap.size ∧ w.cell? ⟨b, off + i, none⟩ = some (.int .i64 (l.getD i 0)) := by
  have hx : l[i]? = some (l.getD i 0) := by rw [List.getD_eq_getElem?_getD, List.getElem?_eq_getElem hi]; rfl
  rcases h with h | ⟨b, off, rfl, h1, h⟩
  · rw [h] at hi; cases hi
  · exact ⟨b, off, rfl, h1, h i _ hx⟩
theorem EdgesIn.get {w : World} {a : Option Addr} {l : Raw} {i : Nat} (h : EdgesIn w a l) (hi : i < l.length) : ∃ b off x, a = some ⟨b, off, none⟩ ∧ b < w.heap.size ∧ l[i]? = some x ∧ w.cell? ⟨b, off + i * 2, none⟩ = some (.int .i64 x.1) ∧ w.cell? ⟨b, off + i * 2 + 1, none⟩ = some (.int .i64 x.2) := by
  have hx : l[i]? = some l[i] := List.getElem?_eq_getElem hi
  rcases h with h | ⟨b, off, rfl, h1, h⟩
  · rw [h] at hi; cases hi
  · exact ⟨b, off, _, rfl, h1, hx, h i _ hx⟩
/-- A graph, as an argument. -/
def graphV (a : Option Addr) (n cap : Nat) (c : Option Addr) (m cap' : Nat) : Array Value := #[.slice a n cap, .slice c m cap']

/-! isPriority, has, joins -/
def isPri (x : Int) : Bool := decide (0 ≤ x) && decide (x ≤ 255)
theorem isPri_iff (x : Int) : isPri x = true ↔ 0 ≤ x ∧ x ≤ 255 := by simp [isPri]
theorem ispri_any (x : Int) (W : World) : Calls Try.prog 24 #[.int .i64 x] W fun e w' => e = .returned (.bool (isPri x)) ∧ W = w' := by
  by_cases hp : 0 ≤ x
  · have HV : Hid (isPri x = decide (x ≤ 255)) := by show _ = _; simp [isPri, hp]
    go_enter Try.func24, Try.ntmps24
    go_wp2
    go_ret
    exact ⟨by rw [HV.out] <;> rfl, rfl⟩
  · have HV : Hid (isPri x = false) := by show _ = _; simp [isPri, hp]
    have h2 : decide (0 ≤ x) = false := by simpa using hp
    go_enter Try.func24, Try.ntmps24
    go_wp2
    go_ret
    exact ⟨by rw [HV.out] <;> rfl, rfl⟩
def thr (n : Nat) (x : Int) : Bool := decide (0 ≤ x) && decide (x < n)
theorem thr_iff (n : Nat) (x : Int) : thr n x = true ↔ 0 ≤ x ∧ x < n := by simp [thr]
theorem has_any (a c : Option Addr) (n cap m cap' : Nat) (x : Int) (W : World) : Calls Try.prog 23 #[.agg (graphV a n cap c m cap'), .int .i64 x] W fun e w' => e = .returned (.bool (thr n x)) ∧ Fr No W w' := by
  have HF : Hid (Fr No W (W.alloc (.cells (graphV a n cap c m cap') 40))) := Fr.alloc _ _ _
  unfold graphV at HF ⊢
  by_cases hp : 0 ≤ x
  · have HV : Hid (thr n x = decide (x < (n : Int))) := by show _ = _; simp [thr, hp]
    go_enter Try.func23, Try.ntmps23
    go_wp2
    go_ret
    exact ⟨by rw [HV.out] <;> rfl, HF.out⟩
  · have HV : Hid (thr n x = false) := by show _ = _; simp [thr, hp]
    have h2 : decide (0 ≤ x) = false := by simpa using hp
    go_enter Try.func23, Try.ntmps23
    go_wp2
    go_ret
    exact ⟨by rw [HV.out] <;> rfl, HF.out⟩
def joinsB (n : Nat) (e : Int × Int) : Bool := thr n e.1 && thr n e.2
/-- A load of a whole struct or array at a guarded operation that is wanted. -/
theorem wpList_load_mid_g {P : Program} {ops : Array Oper} {rest : List Oper} {op : Oper} {a : Act} {w : World} {Q : Exit → Act → World → Prop} (hgd : Region.wanted op (yielded ops a.tmps) = true) (ty : TypeId) (x : Operand) (ho : op.op = .load ty x)
    (b o : Nat) (hx : a.eval x = .pointer (some ⟨b, o, none⟩)) (cs : List Value) (d : TypeDesc) (hc : w.rangeAt b o cs)
    (hu : P.underlying ty = some d) (hd : d.isRow = true) (hi : (P.info? ty).map (·.size) = some cs.length)
    (h : wpList P ops Q rest (a.put op.dst (.agg cs.toArray)) w) : wpList P ops Q (op :: rest) a w := by
  rw [wpList, if_pos hgd]
  exact .inl (wp_load_mid ty x ho b o hx cs d hc hu hd hi h)
theorem RowAt.range {W : World} {B : Nat} {t : TypeId} {cs : Array Value} (h : RowAt W B t cs) : W.rangeAt B 0 cs.toList := fun j v hv => by rw [Nat.zero_add, RowAt.cell h]; simpa using hv
theorem size_graph : (Try.prog.info? 40).map (·.size) = some 2 := by kernel_rfl
theorem size_edge : (Try.prog.info? 36).map (·.size) = some 2 := by kernel_rfl
set_option maxHeartbeats 1000000 in
theorem joins_any (a c : Option Addr) (n cap m cap' : Nat) (x y : Int) (W : World) : Calls Try.prog 37 #[.agg (graphV a n cap c m cap'), .agg #[.int .i64 x, .int .i64 y]] W fun e w' => e = .returned (.bool (joinsB n (x, y))) ∧ Fr No W w' := by
  have HF : Hid (Fr No W ((W.alloc (.cells (graphV a n cap c m cap') 40)).alloc (.cells #[.int .i64 x, .int .i64 y] 36))) := (Fr.alloc _ _ _).trans (Fr.alloc _ _ _)
  have HR : Hid (RowAt ((W.alloc (.cells (graphV a n cap c m cap') 40)).alloc (.cells #[.int .i64 x, .int .i64 y] 36)) W.heap.size 40 (graphV a n cap c m cap')) := (RowAt.new W _ _).fr (Fr.alloc No _ _) id
  have HE : Hid (RowAt ((W.alloc (.cells (graphV a n cap c m cap') 40)).alloc (.cells #[.int .i64 x, .int .i64 y] 36)) (W.heap.size + 1) 36 #[.int .i64 x, .int .i64 y]) := by
    have := RowAt.new (W.alloc (.cells (graphV a n cap c m cap') 40)) 36 #[.int .i64 x, .int .i64 y]
    rw [show (W.alloc (.cells (graphV a n cap c m cap') 40)).heap.size = W.heap.size + 1 from by simp] at this
    exact this
  have HV1 : Hid (thr n x = true → joinsB n (x, y) = thr n y) := fun h => by simp [joinsB, h]
  have HV2 : Hid (thr n x = false → joinsB n (x, y) = false) := fun h => by simp [joinsB, h]
  have HC1 := Lib.hid (has_any a c n cap m cap' x)
  have HC2 := Lib.hid (has_any a c n cap m cap' y)
  unfold graphV at HF HR HE HC1 HC2 ⊢
  go_enter Try.func37, Try.ntmps37
  go_upto_region 1 with (fail)
  generalize World.alloc (World.alloc W _) _ = W1 at HF HR HE ⊢
  generalize W.heap.size = b at HR HE ⊢
  have c0 : W1.cell? ⟨b + 1, 0, none⟩ = some (.int .i64 x) := HE.out.cell 0
  cases h1 : thr n x
  · rw [h1] at HC1
    have HV := Lib.hid (HV2.out h1)
    clear HV1 HV2 h1
    go_wp2_with (first
      | (refine wpList_load_mid rfl 40 (Operand.tmp 2) rfl b 0 rfl [_, _] _ HR.out.range Try.underlying40 rfl size_graph ?_)
      | (go_at_call 23; refine (HC1.out _).mono ?_; rintro e w2 ⟨rfl, hf⟩))
    go_ret
    exact ⟨by rw [HV.out] <;> rfl, HF.out.trans hf⟩
  · rw [h1] at HC1
    have HV := Lib.hid (HV1.out h1)
    clear HV1 HV2 h1
    go_wp2_with (first
      | (refine wpList_load_mid rfl 40 (Operand.tmp 2) rfl b 0 rfl [_, _] _ HR.out.range Try.underlying40 rfl size_graph ?_)
      | (refine wpList_load_mid_g rfl 40 (Operand.tmp 2) rfl b 0 rfl [_, _] _ (HR.out.fr HF2.out id).range Try.underlying40 rfl size_graph ?_)
      | (go_at_call 23; refine (HC1.out _).mono ?_; rintro e w2 ⟨rfl, hf⟩; clear HC1; have HF2 := Lib.hid hf; clear hf; have c1 : w2.cell? ⟨b + 1, 1, none⟩ = some (.int .i64 y) := (HE.out.fr HF2.out id).cell 1)
      | (go_at_call 23; refine (HC2.out _).mono ?_; rintro e w3 ⟨rfl, hf3⟩))
    go_ret
    exact ⟨by rw [HV.out] <;> rfl, (HF.out.trans HF2.out).trans hf3⟩
end Go.Proofs.Yteikipiigbjgbaa
