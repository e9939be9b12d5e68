/- The contract of costs.lines$1, the function that costs.Parse ranges over. -/
import Derived.Test.YtnnmmkimdknbgaaDoorTk
import Derived.RangeFuncNested
import Derived.RangeFuncBound
import Derived.RangeFuncCalls
import Derived.RangeFuncLeaves
import Derived.Shelf.Abstract
import Derived.Shelf.RegionOpen
import Derived.WalkKit
import Derived.OwnWalkIn
import Derived.TacticsInMore
import Derived.LoopNIn
import Derived.LoopIn
namespace Go.Proofs.YtnnmmkimdknbgaaDoor
open Go.RowKit Go.Shelf
set_option linter.unusedVariables false
attribute [local go_sem] Oper.semAt_some

def lineAt (s : ByteArray) (a : Nat) : ByteArray := ⟨(lineOf (s.data.toList.drop a)).toArray⟩
def encL (s : ByteArray) (a : Nat) : Array Value := #[.int .i64 (a : Int), .string (lineAt s a)]
/-- What a round keeps: the box of the string. -/
def KpS (B : Nat) (s : ByteArray) (W W' : World) : Prop := W.cell? ⟨B, 0, none⟩ = some (.string s) → W'.cell? ⟨B, 0, none⟩ = some (.string s)
theorem KpS.t {B : Nat} {s : ByteArray} {X Y Z : World} (h : KpS B s X Y) (k : KpS B s Y Z) : KpS B s X Z := fun e => k (h e)

theorem feed_spec : ∀ t : List UInt8, (Lib.indexByte t 10 = -1 ∧ lineOf t = t) ∨ (∃ f : Nat, Lib.indexByte t 10 = f ∧ (lineOf t).length = f + 1)
  | [] => .inl ⟨rfl, rfl⟩
  | b :: r => by
    by_cases hb : b = 10
    · subst hb
      exact .inr ⟨0, by rw [Lib.indexByte]; rfl, by rw [lineOf]; rfl⟩
    · have hbb : (b == 10) = false := by simpa using hb
      rcases feed_spec r with ⟨h1, h2⟩ | ⟨f, h1, h2⟩
      · exact .inl ⟨by rw [Lib.indexByte, hbb, h1]; rfl, by rw [lineOf, if_neg hb, h2]⟩
      · refine .inr ⟨f + 1, ?_, by rw [lineOf, if_neg hb, List.length_cons, h2]⟩
        rw [Lib.indexByte, hbb, h1]
        have : ((f : Int) == -1) = false := beq_eq_false_iff_ne.2 (by omega)
        rw [this]; rfl

set_option maxRecDepth 100000 in
set_option maxHeartbeats 4000000 in
theorem lines1_in (n : Nat) (hn : 1 ≤ n) (l B : Nat) (s : ByteArray) (hs : s.size ≤ 65536) (J Jx : List Nat → World → Prop)
    (hY : ∀ pre a W, J pre W → pre.length < s.size → YieldAt Fence.wide (n - 1) Tryd.prog l (encL s a) W fun e W' =>
      (e = .returned (.bool true) ∧ J (pre ++ [a]) W' ∧ KpS B s W W') ∨ (e = .returned (.bool false) ∧ Jx (pre ++ [a]) W'))
    (W : World) (hB : W.cell? ⟨B, 0, none⟩ = some (.string s)) (h0 : J [] W) :
    CallsIn Fence.wide n Tryd.prog 38 #[.func (.yield l) #[] #[], .pointer (some ⟨B, 0, none⟩)] W fun e W' => (∃ v, e = .returned v) ∧
      ((∃ ys, Chain s.data.toList 0 ys s.size ∧ J ys W') ∨ (∃ pre, (∃ e, Chain s.data.toList 0 pre e) ∧ Jx pre W')) := by
  refine callsIn_of_wp Tryd.func38 rfl trivial ?_ rfl
  simp only [Tryd.ntmps38, List.size_toArray, List.length_cons, List.length_nil, Nat.reduceAdd, Nat.reduceSub, Array.replicate_succ, Array.replicate_zero, List.push_toArray, List.append_toArray, List.nil_append, List.cons_append]
  gi_wp2
  gi_loopw [3] (fun p wr => ∃ (pre : List Nat) (a : Nat), p = .int .i64 a ∧ a ≤ s.size ∧ Chain s.data.toList 0 pre a ∧ J pre wr ∧ wr.cell? ⟨B, 0, none⟩ = some (.string s))
    (fun p wr => s.size - (intOf p).toNat)
  case atStart => exact ⟨[], 0, rfl, by omega, rfl, h0, hB⟩
  case round =>
    obtain ⟨pre, a, rfl, ha, hc, hJ, hB⟩ := hrel
    have hlong := hc.long
    have HC := Lib.hid hc
    clear hc
    by_cases hlt : a < s.size
    · obtain ⟨fn, tmps, assign, body, hy, hR⟩ := hY pre a wr hJ (by omega)
      have ht : (s.extract a s.size).data.toList = s.data.toList.drop a := by
        rw [ByteArray.data_extract, Array.toList_extract, List.extract_eq_take_drop]
        exact List.take_of_length_le (by rw [List.length_drop]; exact Nat.le_refl _)
      have hIB : Calls Tryd.prog 39 #[.string (s.extract a s.size), .int .u8 10] wr fun e w' => e = .returned (.int .i64 (Lib.indexByte (s.data.toList.drop a) 10)) ∧ wr = w' := by
        have := Tryd.strings_IndexByte (s.extract a s.size) 10 wr
        rw [ht] at this
        exact this.mono fun e w' h => ⟨h.1, h.2.symm⟩
      have hpos := lineOf_len (s.data.toList.drop a)
      have hdl : (s.data.toList.drop a).length = s.size - a := by rw [List.length_drop]; rfl
      have hne := lineOf_pos (bs := s.data.toList.drop a) (by intro e; rw [e] at hdl; simp at hdl; omega)
      have hyl : encL s a = #[.int .i64 (a : Int), .string (s.extract a (a + (lineOf (s.data.toList.drop a)).length))] := by
        have e : lineAt s a = s.extract a (a + (lineOf (s.data.toList.drop a)).length) := by
          refine ByteArray.ext ?_
          have := List.prefix_iff_eq_take.1 (lineOf_prefix (s.data.toList.drop a))
          apply Array.toList_inj.1
          simp only [lineAt, ByteArray.data_extract, Array.toList_extract, List.extract_eq_take_drop]
          rw [show a + (lineOf (s.data.toList.drop a)).length - a = (lineOf (s.data.toList.drop a)).length from by omega]
          exact this
        rw [encL, e]
      rw [hyl] at hy
      have HCN : Hid (Chain s.data.toList 0 (pre ++ [a]) (a + (lineOf (s.data.toList.drop a)).length)) := HC.out.snoc hlt
      have HN : Hid (a + (lineOf (s.data.toList.drop a)).length ≤ s.size ∧ a < a + (lineOf (s.data.toList.drop a)).length) := ⟨by omega, by omega⟩
      clear hyl ht
      rcases feed_spec (s.data.toList.drop a) with ⟨h1, h2⟩ | ⟨f, h1, h2⟩
      · rw [h1] at hIB
        have he : a + (lineOf (s.data.toList.drop a)).length = s.size := by rw [h2, hdl]; omega
        rw [he] at hy HCN HN
        have HIB := Lib.hid (callsIn_wide (n := n - 1).2 hIB)
        have HB := Lib.hid hB
        clear hIB h1 h2 hdl hne hpos he hJ hlong
        gi_wp2_with (refine ⟨trivial, ?_⟩; gi_at_call 39; refine HIB.out.mono ?_; rintro e w' ⟨rfl, rfl⟩)
        refine hR.mono ?_
        rintro e W3 (⟨rfl, hJ3, hk3⟩ | ⟨rfl, hJx3⟩)
        · have hB3 := hk3 HB.out
          gi_wp2
          go_roundw
          case rel => exact ⟨pre ++ [a], s.size, rfl, HN.out.1, HCN.out, hJ3, hB3⟩
          case measure => simp [intOf]; have := HN.out; omega
        · gi_wp2
          refine bodyPost_ret (results_none rfl _ _ _) rfl ?_
          exact ⟨⟨_, rfl⟩, .inr ⟨pre ++ [a], ⟨_, HCN.out⟩, hJx3⟩⟩
      · rw [h1] at hIB
        have he : a + (lineOf (s.data.toList.drop a)).length = a + f + 1 := by omega
        rw [he] at hy HCN HN
        have HIB := Lib.hid (callsIn_wide (n := n - 1).2 hIB)
        have HB := Lib.hid hB
        have k0 : (0 : Int) ≤ (f : Int) := by omega
        have k1 : (a : Int) + f + 1 ≤ s.size := by have := HN.out.1; omega
        have k2 : ((a : Int) + f + 1).toNat = a + f + 1 := by omega
        clear hIB h1 h2 hdl hne hpos he hJ hlong
        gi_wp2_with (refine ⟨trivial, ?_⟩; gi_at_call 39; refine HIB.out.mono ?_; rintro e w' ⟨rfl, rfl⟩)
        refine hR.mono ?_
        rintro e W3 (⟨rfl, hJ3, hk3⟩ | ⟨rfl, hJx3⟩)
        · have hB3 := hk3 HB.out
          gi_wp2
          go_roundw
          case rel => exact ⟨pre ++ [a], a + f + 1, by go_num, HN.out.1, HCN.out, hJ3, hB3⟩
          case measure => simp [intOf]; have := HN.out; omega
        · gi_wp2
          refine bodyPost_ret (results_none rfl _ _ _) rfl ?_
          exact ⟨⟨_, rfl⟩, .inr ⟨pre ++ [a], ⟨_, HCN.out⟩, hJx3⟩⟩
    · obtain rfl : a = s.size := by omega
      gi_wp2
      go_end0
      exact ⟨⟨_, rfl⟩, .inl ⟨pre, HC.out, hJ⟩⟩
end Go.Proofs.YtnnmmkimdknbgaaDoor
