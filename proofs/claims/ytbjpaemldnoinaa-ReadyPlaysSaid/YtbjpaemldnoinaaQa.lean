/- ReadyPlays: the reference's queue: its cells; thread, priority, mask, index, find. -/
import Derived.Test.YtbjpaemldnoinaaYv
import Derived.BigRegion
import Derived.LoopTactic
import Derived.OwnWalk
import Derived.Deep.WholeRow
import Derived.Laws.Tables
import Derived.Laws.AppendOwn
import Derived.BigQuiet
namespace Go.Proofs.Ytbjpaemldnoinaa
open Go.RowKit
set_option linter.unusedVariables false

/-- What is not in S is as it was. -/
structure Fr (S : Nat → Prop) (w w' : World) : Prop where
  os : w'.os = w.os
  tape : w'.tape = w.tape
  output : w'.output = w.output
  size : w.heap.size ≤ w'.heap.size
  block : ∀ k, k < w.heap.size → ¬ S k → w'.heap[k]? = w.heap[k]?
theorem Fr.refl (S : Nat → Prop) (w : World) : Fr S w w := ⟨rfl, rfl, rfl, Nat.le_refl _, fun _ _ _ => rfl⟩
theorem Fr.trans {S : Nat → Prop} {A B C : World} (h : Fr S A B) (k : Fr S B C) : Fr S A C :=
  ⟨k.os.trans h.os, k.tape.trans h.tape, k.output.trans h.output, Nat.le_trans h.size k.size, fun i hi hr => (k.block i (Nat.lt_of_lt_of_le hi h.size) hr).trans (h.block i hi hr)⟩
theorem Fr.mono {S T : Nat → Prop} {A B : World} (h : Fr S A B) (hs : ∀ k, k < A.heap.size → S k → T k) : Fr T A B := ⟨h.os, h.tape, h.output, h.size, fun k hk hr => h.block k hk fun e => hr (hs k hk e)⟩
theorem Fr.set {S : Nat → Prop} (W : World) (B i : Nat) (v : Value) (h : S B) : Fr S W (W.setCell ⟨B, i, none⟩ v) :=
  ⟨rfl, rfl, rfl, by simp, fun k _ hk => heap_setCell_other _ _ _ _ (fun e => hk (by rw [e]; exact h))⟩
theorem Fr.alloc (S : Nat → Prop) (W : World) (o : Obj) : Fr S W (W.alloc o) := ⟨rfl, rfl, rfl, by simp, fun k hk _ => heap_alloc_old _ _ hk⟩
theorem Fr.drew (S : Nat → Prop) (W : World) : Fr S W W.drew := ⟨rfl, rfl, rfl, Nat.le_refl _, fun _ _ _ => rfl⟩
theorem Fr.drewN (S : Nat → Prop) (W : World) (n : Nat) : Fr S W (W.drewN n) := ⟨rfl, rfl, rfl, Nat.le_refl _, fun _ _ _ => rfl⟩
theorem Fr.grown {S : Nat → Prop} {A B : World} {row : Option Nat} (h : A.grownBy B row) (hr : ∀ k, row = some k → S k) : Fr S A B := ⟨h.os, h.tape, h.output, h.size, fun k hk hs => h.block k hk fun e => hs (hr k e.symm)⟩
theorem Fr.below {S : Nat → Prop} {n : Nat} {A B C : World} (h : Below n A B) (k : Fr S B C) (hn : n ≤ B.heap.size) (hs : ∀ i, S i → n ≤ i) : Below n A C :=
  ⟨k.os.trans h.os, k.tape.trans h.tape, k.output.trans h.output, Nat.le_trans h.size k.size, fun i hi => (k.block i (by omega) fun e => by have := hs i e; omega).trans (h.block i hi)⟩
theorem Fr.toBelow {S : Nat → Prop} {A B : World} (h : Fr S A B) (hs : ∀ i, i < A.heap.size → ¬ S i) : Below A.heap.size A B := ⟨h.os, h.tape, h.output, h.size, fun i hi => h.block i hi (hs i hi)⟩
theorem RowAt.fr {W W' : World} {S : Nat → Prop} {B : Nat} {t : TypeId} {cs : Array Value} (h : RowAt W B t cs) (hg : Fr S W W') (hne : ¬ S B) : RowAt W' B t cs := (hg.block B h.lt hne).trans h
theorem Fr.setRow {S : Nat → Prop} (W : World) (B : Nat) (cs : Array Value) (h : S B) : Fr S W (W.setRow B cs) :=
  ⟨rfl, rfl, rfl, by simp, fun k _ hk => setRow_other _ _ _ _ (fun e => hk (by rw [e]; exact h))⟩


theorem own_fr2 {W W' : World} {S : Nat → Prop} {base size : Nat} {t : TypeId} {v : Value} {n : Nat} {xs : List Value} (h : W.ownsRow base t size v n xs) (hf : Fr S W W') (hS : ∀ k, v.ownBlock = some k → ¬ S k) : W'.ownsRow base t size v n xs := by
  refine ⟨h.1, h.2.imp id fun ⟨g, cap, cur, h1, h2, h3, r⟩ => ⟨g, cap, cur, h1, h2, ?_, r⟩⟩
  rw [hf.block g (Array.getElem?_eq_some_iff.1 h3).1 (hS g (by rw [h1]; rfl))]; exact h3
theorem own_base {W : World} {lo base size : Nat} {t : TypeId} {v : Value} {n : Nat} {xs : List Value} (h : W.ownsRow base t size v n xs) (hlo : lo ≤ base) : W.ownsRow lo t size v n xs :=
  ⟨h.1, h.2.imp id fun ⟨g, cap, cur, h1, h2, r⟩ => ⟨g, cap, cur, h1, Nat.le_trans hlo h2, r⟩⟩
theorem own_shape {W : World} {lo size : Nat} {t : TypeId} {v : Value} {n : Nat} {xs : List Value} (h : W.ownsRow lo t size v n xs) : ∃ a c, v = .slice a n c := by
  rcases h.2 with ⟨rfl, h0⟩ | ⟨g, cap, cur, rfl, _⟩
  · exact ⟨_, _, by rw [h0]⟩
  · exact ⟨_, _, rfl⟩

/-- An entry of the reference's queue. -/
structure EnR where
  t : Int
  p : Int
  m : Int
def encE : List EnR → List Value
  | [] => []
  | x :: r => .int .i64 x.t :: .int .i64 x.p :: .int .i64 x.m :: encE r
theorem encE_len : ∀ l, (encE l).length = l.length * 3
  | [] => rfl
  | x :: r => by rw [encE, List.length_cons, List.length_cons, List.length_cons, encE_len r, List.length_cons]; omega
theorem encE_app : ∀ l m, encE (l ++ m) = encE l ++ encE m
  | [], m => rfl
  | x :: r, m => by rw [List.cons_append, encE, encE_app r m]; rfl
theorem encE_one : ∀ l, ∀ u ∈ encE l, u.oneCell' = true
  | [], u, h => nomatch h
  | x :: r, u, h => by
    rw [encE] at h
    rcases List.mem_cons.1 h with h | h
    · rw [h]; rfl
    · rcases List.mem_cons.1 h with h | h
      · rw [h]; rfl
      · rcases List.mem_cons.1 h with h | h
        · rw [h]; rfl
        · exact encE_one r u h
theorem encE_get : ∀ (l : List EnR) (i : Nat) (x : EnR), l[i]? = some x → (encE l)[i * 3]? = some (.int .i64 x.t) ∧ (encE l)[i * 3 + 1]? = some (.int .i64 x.p) ∧ (encE l)[i * 3 + 2]? = some (.int .i64 x.m)
  | [], i, x, h => by simp at h
  | y :: r, 0, x, h => by simp at h; subst h; exact ⟨rfl, rfl, rfl⟩
  | y :: r, i + 1, x, h => by
    have := encE_get r i x (by simpa using h)
    rw [encE, show (i + 1) * 3 = i * 3 + 3 from by omega]
    simpa using this
/-- The list's value, when it isn't empty. -/
theorem own_someE {W : World} {lo : Nat} {t : TypeId} {v : Value} {l : List EnR} (h : W.ownsRow lo t 3 v l.length (encE l)) (hl : 0 < l.length) : ∃ g cap, v = .slice (some ⟨g, 0, none⟩) l.length cap ∧ lo ≤ g ∧ l.length ≤ cap ∧ (∀ i x, l[i]? = some x → W.cell? ⟨g, i * 3, none⟩ = some (.int .i64 x.t) ∧ W.cell? ⟨g, i * 3 + 1, none⟩ = some (.int .i64 x.p) ∧ W.cell? ⟨g, i * 3 + 2, none⟩ = some (.int .i64 x.m)) ∧ ∀ j, W.frozen? ⟨g, j, none⟩ = false := by
  have hc := fun g (e : v.ownBlock = some g) => h.cells (g := g) e
  rcases h.2 with ⟨rfl, h0⟩ | ⟨g, cap, cur, rfl, h2, h3, h4, _, _, _⟩
  · omega
  · refine ⟨g, cap, rfl, h2, h4, fun i x hx => ?_, fun j => frozen_of_row _ _ j _ _ h3⟩
    obtain ⟨e1, e2, e3⟩ := encE_get l i x hx
    have a1 := hc g rfl _ _ e1
    have a2 := hc g rfl _ _ e2
    have a3 := hc g rfl _ _ e3
    rw [Addr.add_mid, Nat.zero_add] at a1 a2 a3
    exact ⟨a1, a2, a3⟩
/-- Block R holds the reference's queue; its blocks are lo and above. -/
structure RQA (lo R : Nat) (v : Value) (l : List EnR) (W : World) : Prop where
  row : RowAt W R 29 #[v]
  own : W.ownsRow lo 89 3 v l.length (encE l)
  ne : v.ownBlock ≠ some R
  lo : lo ≤ R
def RQ (lo R : Nat) (l : List EnR) (W : World) : Prop := ∃ v, RQA lo R v l W
theorem RQ.keep {W W' : World} {lo R : Nat} {l : List EnR} {S : Nat → Prop} (h : RQ lo R l W) (hf : Fr S W W') (hS : ∀ k, S k → k < lo) : RQ lo R l W' := by
  obtain ⟨v, h⟩ := h
  exact ⟨v, h.row.fr hf (fun e => by have := hS R e; have := h.lo; omega), own_fr2 h.own hf (fun k e e2 => by have := hS k e2; have := (h.own.lt k e).1; omega), h.ne, h.lo⟩

theorem rthread_any (n : Int) (w : World) : Calls Try.prog 73 #[.int .i64 n] w fun e w' => e = .returned (.bool (isThr n)) ∧ w = w' := by
  by_cases h : 0 ≤ n
  · have HV : Hid (isThr n = decide (n < 256)) := by show _ = _; simp [isThr, h]
    go_enter Try.func73, Try.ntmps73
    go_wp2
    go_ret
    exact ⟨by rw [HV.out]; rfl, rfl⟩
  · have HV : Hid (isThr n = false) := by show _ = _; simp [isThr, h]
    have h2 : decide (0 ≤ n) = false := by simpa using h
    go_enter Try.func73, Try.ntmps73
    go_wp2
    go_ret
    exact ⟨by rw [HV.out]; rfl, rfl⟩
theorem rpriority_any (n : Int) (w : World) : Calls Try.prog 74 #[.int .i64 n] w fun e w' => e = .returned (.bool (isThr n)) ∧ w = w' := by
  by_cases h : 0 ≤ n
  · have HV : Hid (isThr n = decide (n ≤ 255)) := by show _ = _; simp [isThr, h]; omega
    go_enter Try.func74, Try.ntmps74
    go_wp2
    go_ret
    exact ⟨by rw [HV.out]; rfl, rfl⟩
  · have HV : Hid (isThr n = false) := by show _ = _; simp [isThr, h]
    have h2 : decide (0 ≤ n) = false := by simpa using h
    go_enter Try.func74, Try.ntmps74
    go_wp2
    go_ret
    exact ⟨by rw [HV.out]; rfl, rfl⟩
theorem rmask_any (n : Int) (w : World) : Calls Try.prog 75 #[.int .i64 n] w fun e w' => e = .returned (.bool (isMsk n)) ∧ w = w' := by
  by_cases h : 1 ≤ n
  · have HV : Hid (isMsk n = decide (n ≤ 255)) := by
      show _ = _
      have : 0 < n := by omega
      simp [isMsk, this]; omega
    go_enter Try.func75, Try.ntmps75
    go_wp2
    go_ret
    exact ⟨by rw [HV.out]; rfl, rfl⟩
  · have HV : Hid (isMsk n = false) := by
      show _ = _
      have : ¬ 0 < n := by omega
      simp [isMsk, this]
    have h2 : decide (1 ≤ n) = false := by simpa using h
    go_enter Try.func75, Try.ntmps75
    go_wp2
    go_ret
    exact ⟨by rw [HV.out]; rfl, rfl⟩
end Go.Proofs.Ytbjpaemldnoinaa
