/- PartitionPlays: both meters; each method of the meter, then the same of the reference. -/
import Derived.Test.YtbjpaemldnoinaaHi
namespace Go.Proofs.Ytbjpaemldnoinaa
open Go.RowKit
set_option linter.unusedVariables false

/-- Both meters hold the same. -/
structure PJ (W0 : World) (B lo G w p : Nat) (P : List (Int × Int)) (T : Nat) (L : List Ch) (W : World) : Prop where
  m : MS B (cfP w p P) T L W
  r : RM lo G w p P T L W
  lt : B < lo
  b0 : W0.heap.size ≤ B
  fr : Fr (fun _ => False) W0 W
def PE (W0 : World) (B lo G w p : Nat) (P : List (Int × Int)) (m : Nat) (W : World) : Prop := ∃ T L, L.length ≤ m ∧ PJ W0 B lo G w p P T L W
/-- Block x belongs to neither. -/
def NX (B G x : Nat) (W : World) : Prop := x ≠ B ∧ x ≠ G ∧ ∀ n c, W.cell? ⟨G, 3, none⟩ ≠ some (.slice (some ⟨x, 0, none⟩) n c)
theorem PJ.rest {W0 W W' : World} {B lo G w p T : Nat} {P : List (Int × Int)} {L : List Ch} (h : PJ W0 B lo G w p P T L W) (hf : Fr (fun _ => False) W W') : PJ W0 B lo G w p P T L W' :=
  ⟨h.m.fr hf id, h.r.rest hf, h.lt, h.b0, h.fr.trans hf⟩
theorem PE.rest {W0 W W' : World} {B lo G w p m : Nat} {P : List (Int × Int)} (h : PE W0 B lo G w p P m W) (hf : Fr (fun _ => False) W W') : PE W0 B lo G w p P m W' := by
  obtain ⟨T, L, hl, h⟩ := h; exact ⟨T, L, hl, h.rest hf⟩
theorem RM.facts {W : World} {lo G w p T : Nat} {P : List (Int × Int)} {L : List Ch} (h : RM lo G w p P T L W) : lo ≤ G ∧ G < W.heap.size ∧ ∀ k n c, W.cell? ⟨G, 3, none⟩ = some (.slice (some ⟨k, 0, none⟩) n c) → lo ≤ k ∧ k < W.heap.size := by
  obtain ⟨pb, cp, v, h⟩ := h
  refine ⟨h.hlo, h.row.lt, fun k n c e => ?_⟩
  have hc : W.cell? ⟨G, 3, none⟩ = some v := h.row.cell 3
  rw [hc] at e
  injection e with e
  exact h.own.lt k (by rw [e]; rfl)
theorem PE.nx {W0 W : World} {B lo G w p m : Nat} {P : List (Int × Int)} (h : PE W0 B lo G w p P m W) {x : Nat} (hx : W.heap.size ≤ x) : NX B G x W := by
  obtain ⟨T, L, hl, h⟩ := h
  obtain ⟨h1, h2, h3⟩ := h.r.facts
  have := h.m.lt
  exact ⟨by omega, by omega, fun n c e => by have := h3 x n c e; omega⟩
theorem NX.rest {B G x : Nat} {W W' : World} (h : NX B G x W) (hG : G < W.heap.size) (hf : Fr (fun _ => False) W W') : NX B G x W' := ⟨h.1, h.2.1, fun n c e => h.2.2 n c (by rw [← World.cell?_of_block (hf.block G hG id)]; exact e)⟩
theorem pj_two {W0 W : World} {B lo G w p T T' x m : Nat} {P : List (Int × Int)} {L L' : List Ch} (h : PJ W0 B lo G w p P T L W) (hx : NX B G x W) (hl : L'.length ≤ m) {v : Value} {fi fr : FuncId} {ai ar : Array Value}
    (hi : Calls Try.prog fi ai W (MR v B (cfP w p P) T' L' W)) (hr : ∀ W1, RM lo G w p P T L W1 → Calls Try.prog fr ar W1 (RC v lo G w p P T' L' W1)) :
    ∃ M : World → Prop, Calls Try.prog fi ai W (fun e W1 => e = .returned v ∧ Fr (fun k => k ≠ x) W W1 ∧ M W1) ∧ ∀ W1, M W1 → Calls Try.prog fr ar W1 fun e W2 => e = .returned v ∧ Fr (fun k => k ≠ x) W1 W2 ∧ PE W0 B lo G w p P m W2 := by
  obtain ⟨f1, f2, f3⟩ := h.r.facts
  refine ⟨fun W1 => MS B (cfP w p P) T' L' W1 ∧ RM lo G w p P T L W1 ∧ Fr (fun k => k = B) W W1, hi.mono fun e W1 ⟨he, hm, hf⟩ => ⟨he, hf.mono fun k _ e => by have := hx.1; omega, hm, h.r.keep hf (fun k e => by have := h.lt; omega), hf⟩, fun W1 ⟨hm, hr1, hf⟩ => (hr W1 hr1).mono fun e W2 ⟨he, hq, hf2⟩ => ?_⟩
  have hlt := h.lt
  have hc : W1.cell? ⟨G, 3, none⟩ = W.cell? ⟨G, 3, none⟩ := World.cell?_of_block (hf.block G f2 (by omega))
  have hg : ∀ k, FPm G W1 k → lo ≤ k ∧ k ≠ x := fun k e => by
    rcases e with e | ⟨n, c, e⟩
    · exact ⟨by omega, by rw [e]; exact fun e2 => hx.2.1 e2.symm⟩
    · rw [hc] at e
      exact ⟨(f3 k n c e).1, fun e2 => hx.2.2 n c (by rw [← e2]; exact e)⟩
  refine ⟨he, hf2.mono fun k _ e => (hg k e).2, T', L', hl, hm.fr hf2 (fun e => by have := (hg B e).1; omega), hq, h.lt, h.b0, ?_⟩
  have h1 : Fr (fun k => W0.heap.size ≤ k) W W2 := (hf.mono fun k _ e => by have := h.b0; omega).trans (hf2.mono fun k _ e => by have := (hg k e).1; have := h.b0; omega)
  exact ((h.fr.mono fun _ _ e => e.elim).trans h1).mono fun k hk e => by omega
theorem MS.times {W : World} {B T : Nat} {C : CF} {L : List Ch} (h : MS B C T L W) : ∀ c ∈ L, c.t ≤ T := by
  obtain ⟨q, hm, hL, hc, ht⟩ := h
  intro c hcm
  rw [← ht]
  exact (hL.tm c hcm).1

section
variable {W0 W : World} {B lo G w p x m : Nat} {P : List (Int × Int)}
def TwoC (W0 W : World) (B lo G w p x m : Nat) (P : List (Int × Int)) (fi fr : FuncId) (ai ar : Array Value) (v : Value) : Prop := ∃ M : World → Prop, Calls Try.prog fi ai W (fun e W1 => e = .returned v ∧ Fr (fun k => k ≠ x) W W1 ∧ M W1) ∧ ∀ W1, M W1 → Calls Try.prog fr ar W1 fun e W2 => e = .returned v ∧ Fr (fun k => k ≠ x) W1 W2 ∧ PE W0 B lo G w p P m W2
theorem pj_used (h : PE W0 B lo G w p P m W) (hm : m ≤ 100) (hx : NX B G x W) (now k : Int) : ∃ a z : Int, TwoC W0 W B lo G w p x m P 29 52 #[.pointer (some ⟨B, 0, none⟩), .int .i64 now, .int .i64 k] #[.pointer (some ⟨G, 0, none⟩), .int .i64 now, .int .i64 k] (.tuple #[.int .i64 a, .int .i64 z]) := by
  obtain ⟨T, L, hl, h⟩ := h
  exact ⟨_, _, pj_two h hx hl (used_any h.m now k) fun W1 hr => (rused_any hr (by omega) now k).mono fun e w' h => h.rc⟩
theorem pj_ucrit (h : PE W0 B lo G w p P m W) (hm : m ≤ 100) (hx : NX B G x W) (now k : Int) : ∃ a z : Int, TwoC W0 W B lo G w p x m P 30 53 #[.pointer (some ⟨B, 0, none⟩), .int .i64 now, .int .i64 k] #[.pointer (some ⟨G, 0, none⟩), .int .i64 now, .int .i64 k] (.tuple #[.int .i64 a, .int .i64 z]) := by
  obtain ⟨T, L, hl, h⟩ := h
  exact ⟨_, _, pj_two h hx hl (ucrit_any h.m now k) fun W1 hr => (rucrit_any hr (by omega) now k).mono fun e w' h => h.rc⟩
theorem pj_has (h : PE W0 B lo G w p P m W) (hm : m ≤ 100) (hx : NX B G x W) (now k : Int) : ∃ (a : Bool) (z : Int), TwoC W0 W B lo G w p x m P 27 54 #[.pointer (some ⟨B, 0, none⟩), .int .i64 now, .int .i64 k] #[.pointer (some ⟨G, 0, none⟩), .int .i64 now, .int .i64 k] (.tuple #[.bool a, .int .i64 z]) := by
  obtain ⟨T, L, hl, h⟩ := h
  exact ⟨_, _, pj_two h hx hl (hasb_any h.m now k) fun W1 hr => (rhasb_any hr (by omega) now k).mono fun e w' h => h.rc⟩
theorem pj_bank (h : PE W0 B lo G w p P m W) (hm : m ≤ 100) (hx : NX B G x W) (now k : Int) : ∃ (a : Bool) (z : Int), TwoC W0 W B lo G w p x m P 55 56 #[.pointer (some ⟨B, 0, none⟩), .int .i64 now, .int .i64 k] #[.pointer (some ⟨G, 0, none⟩), .int .i64 now, .int .i64 k] (.tuple #[.bool a, .int .i64 z]) := by
  obtain ⟨T, L, hl, h⟩ := h
  exact ⟨_, _, pj_two h hx hl (bank_any h.m now k) fun W1 hr => (rbank_any hr (by omega) now k).mono fun e w' h => h.rc⟩
theorem pj_comp (h : PE W0 B lo G w p P m W) (hm : m ≤ 100) (hx : NX B G x W) (hok : cfgV w p P = 0) (now k j : Int) : ∃ a z : Int, TwoC W0 W B lo G w p x m P 31 57 #[.pointer (some ⟨B, 0, none⟩), .int .i64 now, .int .i64 k, .int .i64 j] #[.pointer (some ⟨G, 0, none⟩), .int .i64 now, .int .i64 k, .int .i64 j] (.tuple #[.int .i64 a, .int .i64 z]) := by
  obtain ⟨T, L, hl, h⟩ := h
  exact ⟨_, _, pj_two h hx hl (comp_any h.m (cfP_ok hok) now k j) fun W1 hr => (rcomp_any hr (by omega) now k j).mono fun e w' h => h.rc⟩
theorem pj_charge (h : PE W0 B lo G w p P m W) (hm : m ≤ 100) (hx : NX B G x W) (now k : Int) (c : Bool) : ∃ z : Int, TwoC W0 W B lo G w p x (m + 1) P 28 58 #[.pointer (some ⟨B, 0, none⟩), .int .i64 now, .int .i64 k, .bool c] #[.pointer (some ⟨G, 0, none⟩), .int .i64 now, .int .i64 k, .bool c] (.int .i64 z) := by
  obtain ⟨T, L, hl, h⟩ := h
  refine ⟨_, pj_two h hx (L' := chL (cfP w p P) T L now k c) ?_ (charge_any h.m now k c (by omega)) fun W1 hr => rcharge_any hr (by omega) h.m.times now k c⟩
  rw [chL]
  split
  · rw [List.length_append]; simp only [List.length_cons, List.length_nil]; omega
  · omega
end
end Go.Proofs.Ytbjpaemldnoinaa
