/- PartitionOrders: plain; what the walks over a configuration share. -/
import Derived.Test.YtbjpaemldnoinaaMk
import Derived.Test.YtbjpaemldnoinaaMm
namespace Go.Proofs.Ytbjpaemldnoinaa
open Go.RowKit
set_option linter.unusedVariables false

/-- The meter in a walk: all that W1 had, but for the meter, is as it was. -/
def PSt (W1 : World) (B : Nat) (C : CF) (T : Nat) (L : List Ch) (W : World) : Prop := MS B C T L W ∧ Fr (fun k => k = B) W1 W ∧ W1.heap.size ≤ B
theorem PSt.move {W1 W W' : World} {B T T' : Nat} {C : CF} {L L' : List Ch} (h : PSt W1 B C T L W) (hm : MS B C T' L' W') (hf : Fr (fun k => k = B) W W') : PSt W1 B C T' L' W' := ⟨hm, h.2.1.trans hf, h.2.2⟩
theorem PSt.rest {W1 W W' : World} {B T : Nat} {C : CF} {L : List Ch} (h : PSt W1 B C T L W) (hf : Fr (fun _ => False) W W') : PSt W1 B C T L W' := h.move (h.1.fr hf id) (hf.mono fun _ _ e => e.elim)
theorem PSt.fr0 {W1 W : World} {B T : Nat} {C : CF} {L : List Ch} (h : PSt W1 B C T L W) : Fr (fun _ => False) W1 W := h.2.1.mono fun k hk e => by have := h.2.2; omega
theorem PSt.cell {W1 W : World} {B T : Nat} {C : CF} {L : List Ch} (h : PSt W1 B C T L W) {k : Nat} (hk : k < W1.heap.size) (o : Nat) : W.cell? ⟨k, o, none⟩ = W1.cell? ⟨k, o, none⟩ := World.cell?_of_block (h.fr0.block k hk id)
theorem PSt.row {W1 W : World} {B T : Nat} {C : CF} {L : List Ch} (h : PSt W1 B C T L W) {k : Nat} {t : TypeId} {cs : Array Value} (hr : RowAt W1 k t cs) : RowAt W k t cs := hr.fr h.fr0 id
theorem PSt.new {W1 W : World} {B : Nat} {C : CF} (hB : W1.heap.size ≤ B) (hm : MS B C 0 [] W) (hf : Fr (fun _ => False) W1 W) : PSt W1 B C 0 [] W := ⟨hm, hf.mono fun _ _ e => e.elim, hB⟩
theorem PSt.comp {W1 W : World} {B T : Nat} {C : CF} {L : List Ch} (h : PSt W1 B C T L W) (hC : BudOk C) (n a b : Nat) (hT : T ≤ n) (hn : n ≤ 1099511627776) (ha : a < C.np) (hb : b < C.np) : Calls Try.prog 31 #[.pointer (some ⟨B, 0, none⟩), .int .i64 (n : Int), .int .i64 (a : Int), .int .i64 (b : Int)] W fun e W' => e = .returned (.tuple #[.int .i64 (cmpV (C.bud a) (useL L C.win n a : Nat) (C.bud b) (useL L C.win n b : Nat)), .int .i64 0]) ∧ PSt W1 B C n L W' := by
  have he : erV C T n [(a : Int), (b : Int)] = 0 := chk_ok.2 ⟨⟨by omega, by omega⟩, by simp [hasB]; omega, by omega⟩
  have := comp_any h.1 hC n a b
  rw [coV, if_pos he, tiV, if_pos he] at this
  simp only [Int.toNat_natCast] at this
  exact this.mono fun e W' ⟨h1, h2, h3⟩ => ⟨h1, h.move h2 h3⟩
theorem PSt.used {W1 W : World} {B T : Nat} {C : CF} {L : List Ch} (h : PSt W1 B C T L W) (n k : Nat) (hT : T ≤ n) (hn : n ≤ 1099511627776) (hk : k < C.np) : Calls Try.prog 29 #[.pointer (some ⟨B, 0, none⟩), .int .i64 (n : Int), .int .i64 (k : Int)] W fun e W' => e = .returned (.tuple #[.int .i64 (useL L C.win n k : Nat), .int .i64 0]) ∧ PSt W1 B C n L W' := by
  have he : erV C T n [(k : Int)] = 0 := chk_ok.2 ⟨⟨by omega, by omega⟩, by simp [hasB]; omega, by omega⟩
  have := used_any h.1 n k
  rw [usV, if_pos he, tiV, if_pos he] at this
  simp only [Int.toNat_natCast] at this
  exact this.mono fun e W' ⟨h1, h2, h3⟩ => ⟨h1, h.move h2 h3⟩
theorem PSt.ucrit {W1 W : World} {B T : Nat} {C : CF} {L : List Ch} (h : PSt W1 B C T L W) (n k : Nat) (hT : T ≤ n) (hn : n ≤ 1099511627776) (hk : k < C.np) : Calls Try.prog 30 #[.pointer (some ⟨B, 0, none⟩), .int .i64 (n : Int), .int .i64 (k : Int)] W fun e W' => e = .returned (.tuple #[.int .i64 (ucrL L C.win n k : Nat), .int .i64 0]) ∧ PSt W1 B C n L W' := by
  have he : erV C T n [(k : Int)] = 0 := chk_ok.2 ⟨⟨by omega, by omega⟩, by simp [hasB]; omega, by omega⟩
  have := ucrit_any h.1 n k
  rw [ucV, if_pos he, tiV, if_pos he] at this
  simp only [Int.toNat_natCast] at this
  exact this.mono fun e W' ⟨h1, h2, h3⟩ => ⟨h1, h.move h2 h3⟩
theorem PSt.has {W1 W : World} {B T : Nat} {C : CF} {L : List Ch} (h : PSt W1 B C T L W) (n k : Nat) (hT : T ≤ n) (hn : n ≤ 1099511627776) (hk : k < C.np) : Calls Try.prog 27 #[.pointer (some ⟨B, 0, none⟩), .int .i64 (n : Int), .int .i64 (k : Int)] W fun e W' => e = .returned (.tuple #[.bool (decide ((useL L C.win n k : Int) < C.bud k)), .int .i64 0]) ∧ PSt W1 B C n L W' := by
  have he : erV C T n [(k : Int)] = 0 := chk_ok.2 ⟨⟨by omega, by omega⟩, by simp [hasB]; omega, by omega⟩
  have := hasb_any h.1 n k
  rw [hbV, if_pos he, tiV, if_pos he] at this
  simp only [Int.toNat_natCast] at this
  exact this.mono fun e W' ⟨h1, h2, h3⟩ => ⟨h1, h.move h2 h3⟩
/-- A charge at a time that is not behind: it is made, or as many as there are processors were. -/
theorem PSt.charge {W1 W : World} {B T : Nat} {C : CF} {L : List Ch} (h : PSt W1 B C T L W) (n k : Nat) (c : Bool) (hT : T ≤ n) (hn : n ≤ 1099511627776) (hk : k < C.np) (hl : L.length < 100000) : Calls Try.prog 28 #[.pointer (some ⟨B, 0, none⟩), .int .i64 (n : Int), .int .i64 (k : Int), .bool c] W fun e W' => e = .returned (.int .i64 (if nowL L n < C.pr then 0 else 18)) ∧ PSt W1 B C n (if nowL L n < C.pr then L ++ [⟨n, k, c⟩] else L) W' := by
  have he : erV C T n [(k : Int)] = 0 := chk_ok.2 ⟨⟨by omega, by omega⟩, by simp [hasB]; omega, by omega⟩
  have := charge_any h.1 n k c hl
  have e1 : chV C T L n k = if nowL L n < C.pr then 0 else 18 := by rw [chV, if_pos he]; simp only [Int.toNat_natCast]
  have e2 : chL C T L n k c = if nowL L n < C.pr then L ++ [⟨n, k, c⟩] else L := by
    rw [chL, e1]
    by_cases e : nowL L n < C.pr
    · rw [if_pos e, if_pos rfl, if_pos e]; simp only [Int.toNat_natCast]
    · rw [if_neg e, if_neg (by decide), if_neg e]
  rw [e1, e2, tiV, if_pos he] at this
  simp only [Int.toNat_natCast] at this
  exact this.mono fun e W' ⟨h1, h2, h3⟩ => ⟨h1, h.move h2 h3⟩
theorem PSt.len {W1 W : World} {B T : Nat} {C : CF} {L : List Ch} (h : PSt W1 B C T L W) : L.length ≤ 100000 := by obtain ⟨⟨q, _, hL, _, _⟩, _⟩ := h; exact hL.len

/-! Compare is a total preorder. -/
theorem cmp3_neg (x y : Int) : cmp3 x y = -cmp3 y x := by
  unfold cmp3
  by_cases h1 : x < y
  · rw [if_pos h1, if_neg (by omega), if_pos h1]
  · rw [if_neg h1]
    by_cases h2 : y < x
    · rw [if_pos h2, if_pos h2]; rfl
    · rw [if_neg h2, if_neg h2, if_neg h1]; rfl
theorem cmp3_le (x y : Int) : cmp3 x y ≤ 0 ↔ x ≤ y := by
  unfold cmp3
  split
  · omega
  · split <;> omega
theorem cmp3_bound (x y : Int) : -1 ≤ cmp3 x y ∧ cmp3 x y ≤ 1 := by
  unfold cmp3
  split
  · omega
  · split <;> omega
theorem cmpV_neg (ba ua bb ub : Int) : cmpV ba ua bb ub = -cmpV bb ub ba ua := by
  unfold cmpV
  by_cases h : ba = 0 ∨ bb = 0
  · rw [if_pos h, if_pos (by omega)]; exact cmp3_neg _ _
  · rw [if_neg h, if_neg (by omega)]; exact cmp3_neg _ _
theorem cmpV_self (b u : Int) : cmpV b u b u = 0 := by have := cmpV_neg b u b u; omega
theorem cmpV_bound (ba ua bb ub : Int) : -1 ≤ cmpV ba ua bb ub ∧ cmpV ba ua bb ub ≤ 1 := by
  unfold cmpV
  split
  · exact cmp3_bound _ _
  · exact cmp3_bound _ _
theorem cmpV_le {ba ua bb ub : Int} (ha : 0 ≤ ba) (hb : 0 ≤ bb) : cmpV ba ua bb ub ≤ 0 ↔ bb = 0 ∨ (0 < ba ∧ 0 < bb ∧ ua * bb ≤ ub * ba) := by
  unfold cmpV
  by_cases h : ba = 0 ∨ bb = 0
  · rw [if_pos h, cmp3_le]; omega
  · rw [if_neg h, cmp3_le]
    constructor
    · intro e; exact .inr ⟨by omega, by omega, e⟩
    · rintro (e | ⟨_, _, e⟩)
      · omega
      · exact e
theorem cmpV_trans {ba ua bb ub bd ud : Int} (ha : 0 ≤ ba) (hb : 0 ≤ bb) (hd : 0 ≤ bd) (h1 : cmpV ba ua bb ub ≤ 0) (h2 : cmpV bb ub bd ud ≤ 0) : cmpV ba ua bd ud ≤ 0 := by
  rw [cmpV_le ha hb] at h1
  rw [cmpV_le hb hd] at h2
  rw [cmpV_le ha hd]
  rcases h2 with h2 | ⟨b0, d0, h2⟩
  · exact .inl h2
  · rcases h1 with h1 | ⟨a0, _, h1⟩
    · omega
    · refine .inr ⟨a0, d0, ?_⟩
      have e1 : ua * bb * bd ≤ ub * ba * bd := Int.mul_le_mul_of_nonneg_right h1 hd
      have e2 : ub * bd * ba ≤ ud * bb * ba := Int.mul_le_mul_of_nonneg_right h2 ha
      have e3 : ua * bd * bb ≤ ud * ba * bb := by
        have q1 : ua * bd * bb = ua * bb * bd := by rw [Int.mul_assoc, Int.mul_comm bd bb, ← Int.mul_assoc]
        have q2 : ub * ba * bd = ub * bd * ba := by rw [Int.mul_assoc, Int.mul_comm ba bd, ← Int.mul_assoc]
        have q3 : ud * ba * bb = ud * bb * ba := by rw [Int.mul_assoc, Int.mul_comm ba bb, ← Int.mul_assoc]
        rw [q1, q3]
        rw [q2] at e1
        exact Int.le_trans e1 e2
      exact Int.le_of_mul_le_mul_right e3 b0
end Go.Proofs.Ytbjpaemldnoinaa
