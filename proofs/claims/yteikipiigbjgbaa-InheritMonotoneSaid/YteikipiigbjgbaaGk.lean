/- The stable sort of few; mostUrgentFirst. -/
import Derived.Test.YteikipiigbjgbaaGj
import Derived.Deep.OwnRows
namespace Go.Proofs.Yteikipiigbjgbaa
open Go.RowKit
set_option linter.unusedVariables false

/-- The stable sort, for rows of this length: it ends, and leaves a permutation. -/
def StableOk (m : Nat) : Prop := ∀ (W : World) (b x n : Nat) (xs : List Nat) (C : Nat → Nat → Int) (cap : Nat), xs.length = m → Srt W b xs → (∀ v ∈ xs, v < n) → Cmpr W b x n C →
    Calls Try.prog 68 #[.slice (some ⟨b, 0, none⟩) m cap, .int .i64 (m : Int), cmpF x] W fun e w' => e = .returned (.tuple #[]) ∧ Srt w' b xs ∧ Fr (fun k => k = b) W w'
set_option maxRecDepth 100000 in
set_option maxHeartbeats 1000000 in
theorem stable_small {m : Nat} (hm : m < 20) : StableOk m := by
  intro W b x n xs C cap hl hS hx hc
  have HC := Lib.hid (insertion_any hS hx hc cap 0 m (Nat.zero_le _) (by omega) (by omega))
  rw [hl] at HC
  have HS := Lib.hid hS
  have m1 : ¬ (20 : Int) ≤ m := by omega
  have m2 : ¬ (20 : Int) < m := by omega
  have m0 : (0 : Int) ≤ m := by omega
  clear hm hl hS hx hc
  unfold cmpF at HC ⊢
  go_enter Try.func68, Try.ntmps68
  go_wp2
  refine wp_loop_rounds 1 ?_
  rw [rounds_succ]
  go_wp2_with (go_at_call 70; refine HC.out.mono ?_; rintro e w1 ⟨rfl, hs1, hf1⟩; have HS1 := Lib.hid hs1; have HF1 := Lib.hid hf1; clear hs1 hf1)
  refine wp_loop_rounds 1 ?_
  rw [rounds_succ]
  go_wp2
  go_end0
  exact ⟨rfl, HS1.out, HF1.out⟩

theorem sortstable_any {m : Nat} (hok : StableOk m) (W : World) (b x n : Nat) (xs : List Nat) (C : Nat → Nat → Int) (cap : Nat) (hl : xs.length = m) (hS : Srt W b xs) (hx : ∀ v ∈ xs, v < n) (hc : Cmpr W b x n C) :
    Calls Try.prog 60 #[.slice (some ⟨b, 0, none⟩) m cap, cmpF x] W fun e w' => e = .returned (.tuple #[]) ∧ Srt w' b xs ∧ Fr (fun k => k = b) W w' := by
  have HC := Lib.hid (hok W b x n xs C cap hl hS hx hc)
  clear hok hl hS hx hc
  unfold cmpF at HC ⊢
  go_enter Try.func60, Try.ntmps60
  go_wp2_with (go_at_call 68; refine HC.out.mono ?_; rintro e w1 ⟨rfl, hs1, hf1⟩)
  go_end0
  exact ⟨rfl, hs1, hf1⟩

def fillA (n k : Nat) : Array Value := ((List.range n).map fun j => Value.int .i64 (if j < k then (j : Int) else 0)).toArray
theorem fillA_size (n k : Nat) : (fillA n k).size = n := by simp [fillA]
theorem fillA_get {n k j : Nat} (h : j < n) : (fillA n k)[j]? = some (.int .i64 (if j < k then (j : Int) else 0)) := by simp [fillA, h]
theorem fillA_set {n k : Nat} (h : k < n) : (fillA n k).setIfInBounds k (.int .i64 (k : Int)) = fillA n (k + 1) := by
  apply Array.ext_getElem?
  intro j
  rw [Array.getElem?_setIfInBounds, fillA_size]
  by_cases e : k = j
  · subst e; rw [if_pos rfl, if_pos h, fillA_get h, if_pos (by omega)]
  · rw [if_neg e]
    by_cases hj : j < n
    · rw [fillA_get hj, fillA_get hj]
      by_cases h2 : j < k
      · rw [if_pos h2, if_pos (by omega)]
      · rw [if_neg h2, if_neg (by omega)]
    · rw [Array.getElem?_eq_none (by rw [fillA_size]; omega), Array.getElem?_eq_none (by rw [fillA_size]; omega)]
theorem fillA_zero (n : Nat) : madeCells #[Value.int .i64 0] n = fillA n 0 := by
  have := toList_madeCells_one (.int .i64 0) n
  apply Array.ext'
  rw [this]
  simp [fillA, List.map_const']
theorem fillA_full (n : Nat) : fillA n n = encA (List.range n).toArray := by
  apply Array.ext_getElem?
  intro j
  by_cases hj : j < n
  · rw [fillA_get hj, if_pos hj]; simp [encA, hj]
  · rw [Array.getElem?_eq_none (by rw [fillA_size]; omega), Array.getElem?_eq_none (by simp [encA]; omega)]
theorem make_ints (n : Nat) (hn : n ≤ 65536) (w : World) : (Instr.makeSlice 22 (.int .i64 (n : Int)) (.int .i64 (n : Int))).run Try.prog w = .ok (.slice (some ⟨w.heap.size, 0, none⟩) n n) (w.alloc (.cells (fillA n 0) 3)) := by
  rw [← fillA_zero]
  exact run_make_row' 22 3 (.int .i64 0) 8 Try.underlying22 info_int rfl .i64 .i64 n (by omega) (by omega) w

set_option maxRecDepth 100000 in
set_option maxHeartbeats 2000000 in
theorem urgent_any (a c : Option Addr) (cap m cap' : Nat) (bs : List Int) (W : World) (hb : NumsIn W a bs) (hn : bs.length ≤ 256) (hok : StableOk bs.length) :
    Calls Try.prog 46 #[.agg (graphV a bs.length cap c m cap')] W fun e w' => ∃ (g : Nat) (A : Array Nat), e = .returned (.slice (some ⟨g, 0, none⟩) bs.length bs.length) ∧ A.toList.Perm (List.range bs.length) ∧ RowAt w' g 3 (encA A) ∧ W.heap.size ≤ g ∧ Fr No W w' := by
  have HF0 : Hid (Fr No W (W.alloc (.cells (graphV a bs.length cap c m cap') 40))) := Fr.alloc _ _ _
  have HR0 := Lib.hid (RowAt.new W 40 (graphV a bs.length cap c m cap'))
  have HB0 := Lib.hid (hb.no HF0.out)
  have HBL : Hid (∀ b off, a = some ⟨b, off, none⟩ → bs ≠ [] → b < W.heap.size) := fun b off e hne => by
    rcases hb with h | ⟨b', off', e', h', _⟩
    · exact absurd h hne
    · rw [e] at e'; cases e'; exact h'
  have HOK := Lib.hid hok
  have hmk := make_ints bs.length (by omega)
  have n0 : (0 : Int) ≤ bs.length := by omega
  have n1 : (bs.length : Int) ≤ 256 := by omega
  clear hb hn hok
  have HGV : Hid (graphV a bs.length cap c m cap' = #[.slice a bs.length cap, .slice c m cap']) := rfl
  unfold graphV
  rw [HGV.out] at HF0 HR0 HB0
  go_enter Try.func46, Try.ntmps46
  go_upto_region 1 with (fail)
  generalize World.alloc W _ = W1 at HF0 HR0 HB0 ⊢
  have HXL : Hid (W.heap.size < W1.heap.size) := HR0.out.lt
  generalize hx : W.heap.size = x at HR0 HXL HBL ⊢
  have c0 : W1.cell? ⟨x, 0, none⟩ = some (.slice a bs.length cap) := HR0.out.cell 0
  have HXX := Lib.hid hx
  clear hx
  go_upto_region 2 with (fail)
  have HG0 := Lib.hid (RowAt.new W1 3 (fillA bs.length 0))
  have HF1 : Hid (Fr No W1 (W1.alloc (.cells (fillA bs.length 0) 3))) := Fr.alloc _ _ _
  clear c0 hmk
  generalize World.alloc W1 _ = W2 at HG0 HF1 ⊢
  generalize hg : W1.heap.size = g at HG0 HXL ⊢
  have HR2 := Lib.hid (HR0.out.fr HF1.out id)
  have HB2 := Lib.hid (HB0.out.no HF1.out)
  have HGE := Lib.hid hg
  clear hg
  go_wp2
  go_loopw [11] (fun vi wr => ∃ i : Nat, vi = .int .i64 i ∧ Hid (i ≤ bs.length ∧ RowAt wr g 3 (fillA bs.length i) ∧ Fr (fun k => k = g) W2 wr)) (fun vi _ => bs.length - (intOf vi).toNat)
  case atStart => exact ⟨0, rfl, Nat.zero_le _, HG0.out, Fr.refl _ _⟩
  case round =>
    obtain ⟨i, rfl, HI⟩ := hrel
    have i0 : (0 : Int) ≤ i := by omega
    by_cases hi : i < bs.length
    · have i1 : (i : Int) < bs.length := by omega
      have HI1 := Lib.hid hi
      have HMS : Hid (bs.length - (intOf (Value.int IntKind.i64 ((i : Int) + 1))).toNat < bs.length - (intOf (Value.int IntKind.i64 (i : Int))).toNat) := by
        show _ < _
        simp only [intOf]
        omega
      have c1 : wr.cell? ⟨g, i, none⟩ = some (.int .i64 0) := by rw [HI.out.2.1.cell, fillA_get hi, if_neg (Nat.lt_irrefl _)]
      have f1 : wr.frozen? ⟨g, i, none⟩ = false := HI.out.2.1.frozen i
      clear hi
      go_wp2
      go_roundw
      case rel => exact ⟨i + 1, by push_cast; rfl, HI1.out, by rw [← fillA_set HI1.out]; exact HI.out.2.1.set _ _, HI.out.2.2.trans (Fr.set (S := fun k => k = g) _ _ _ _ rfl)⟩
      case measure => exact HMS.out
    · have hil : i = bs.length := by have := HI.out.1; omega
      have hlt : ¬ (i : Int) < bs.length := by omega
      have HR3 : Hid (RowAt wr x 40 (graphV a bs.length cap c m cap')) := HR2.out.fr HI.out.2.2 (fun e => by have := HXL.out; omega)
      have HB3 : Hid (NumsIn wr a bs) := by
        by_cases hne : bs = []
        · exact .inl hne
        · exact HB2.out.fr HI.out.2.2 (fun b off e e2 => by have := HBL.out b off e hne; have := HXL.out; omega)
      have HS : Hid (Srt wr g (List.range bs.length)) := ⟨(List.range bs.length).toArray, .refl _, by rw [← fillA_full, ← hil]; have := HI.out.2.1; rw [hil] at this ⊢; exact this⟩
      have HCM : Hid (Cmpr wr g x bs.length (cmpT bs)) := fun w hf p q hp hq => order_any a c cap m cap' x bs w (HR3.out.fr hf (fun e => by have := HXL.out; omega)) (by
        by_cases hne : bs = []
        · exact .inl hne
        · exact HB3.out.fr hf (fun b off e e2 => by have := HBL.out b off e hne; have := HXL.out; omega)) p q hp hq
      have HSO := Lib.hid (sortstable_any HOK.out wr g x bs.length (List.range bs.length) (cmpT bs) bs.length (List.length_range ..) HS.out (fun v hv => List.mem_range.1 hv) HCM.out)
      unfold cmpF at HSO
      clear hi hil
      go_wp2_with (go_at_call 60; refine HSO.out.mono ?_; rintro e w3 ⟨rfl, hs3, hf3⟩; have HS3 := Lib.hid hs3; have HF3 := Lib.hid hf3; clear hs3 hf3)
      go_ret
      obtain ⟨A, hp, hr⟩ := HS3.out
      exact ⟨g, A, rfl, hp, hr, by rw [HXX.out]; exact Nat.le_of_lt HXL.out, ((HF0.out.trans HF1.out).over HI.out.2.2 (fun k e => .inr (by have := HF0.out.size; have := HGE.out; omega))).over HF3.out (fun k e => .inr (by have := HF0.out.size; have := HGE.out; omega))⟩
end Go.Proofs.Yteikipiigbjgbaa
