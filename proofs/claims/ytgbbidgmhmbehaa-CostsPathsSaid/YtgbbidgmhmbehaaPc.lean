/- The walk of the law CostsPaths. -/
import Derived.Test.YtgbbidgmhmbehaaPb
import Derived.Deep.RegionHeld3
import Derived.Deep.AppendLies
import Derived.WalkSpells
import Derived.StillTactics
import Derived.Laws.Pointers
namespace Go.Proofs.Ytgbbidgmhmbehaa
open Go.RowKit
set_option linter.unusedVariables false

theorem info_call : (Try.prog.info? 49).map (fun i => (i.zero, i.size, i.bytes)) = some (some (.agg #[.int .i64 0, .int .i64 0]), 2, 16) := by kernel_rfl

/-- The cells of calls. -/
def flat (C : List (Int × Int)) : List Value := C.flatMap fun x => [Value.int .i64 x.1, Value.int .i64 x.2]
theorem flat_snoc (C : List (Int × Int)) (k : Nat) (h : k < C.length) : flat (C.take (k + 1)) = flat (C.take k) ++ [.int .i64 (C.getD k (0, 0)).1, .int .i64 (C.getD k (0, 0)).2] := by
  rw [List.take_succ_eq_append_getElem h, flat, flat, List.flatMap_append]
  simp [List.getD, List.getElem?_eq_getElem h]
theorem flat_get : ∀ (C : List (Int × Int)) (k : Nat), k < C.length → (flat C)[k * 2]? = some (.int .i64 (C.getD k (0, 0)).1) ∧ (flat C)[k * 2 + 1]? = some (.int .i64 (C.getD k (0, 0)).2)
  | [], k, h => by simp at h
  | x :: C, 0, h => by simp [flat]
  | x :: C, k + 1, h => by
    have := flat_get C k (by simpa using h)
    simp only [flat, List.flatMap_cons, List.getD_cons_succ] at this ⊢
    rw [show (k + 1) * 2 = k * 2 + 2 from by omega, List.getElem?_append_right (by simp), show k * 2 + 2 + 1 = k * 2 + 1 + 2 from by omega, List.getElem?_append_right (by simp)]
    simpa using this

theorem call_round {w wr w1 : World} {s c : Int} {l : List Int} {v : Value} {o : Obj} (ht : TabAt w w.heap.size s c l wr) (hlt : ∀ k, v.ownBlock = some k → w.heap.size + 1 ≤ k ∧ k < wr.heap.size) (hg : (wr.alloc o).drew.grownBy w1 v.ownBlock) : TabAt w w.heap.size s c l w1 := by
  have hne : v.ownBlock ≠ some w.heap.size := fun h => by have := (hlt _ h).1; omega
  have hl : w.heap.size < wr.heap.size := ht.2.2.2.2
  have ha : TabAt w w.heap.size s c l (wr.alloc o).drew := (ht.call ((Below.refl _ _).alloc (Nat.le_refl _) _)).drew
  have hsz : (wr.alloc o).drew.heap.size = wr.heap.size + 1 := by show (wr.heap.push o).size = _; simp
  have hblk : w1.heap[w.heap.size]? = (wr.alloc o).drew.heap[w.heap.size]? := hg.block _ (by rw [hsz]; omega) (fun h => hne h.symm)
  refine ⟨?_, ?_, ?_, ?_, ?_⟩
  · rw [World.cell?_of_block (w := (wr.alloc o).drew) hblk]; exact ha.1
  · rw [World.cell?_of_block (w := (wr.alloc o).drew) hblk]; exact ha.2.1
  · intro j u hu; rw [World.cell?_of_block (w := (wr.alloc o).drew) hblk]; exact ha.2.2.1 j u hu
  · exact ha.2.2.2.1.grown hg (by rw [hsz]; omega) (fun k hk => by have := (hlt k hk).1; omega)
  · exact Nat.lt_of_lt_of_le ha.2.2.2.2 hg.size
theorem own_calls {w : World} {B : Nat} {e : TypeId} {v : Value} {C : List (Int × Int)} (h : w.ownsRow B e 2 v C.length (flat C)) (h0 : 0 < C.length) : ∃ g cap, v = .slice (some ⟨g, 0, none⟩) C.length cap ∧ CallsAt w g 0 C := by
  rcases h.2 with ⟨_, h2⟩ | ⟨g, cap, cur, rfl, _⟩
  · omega
  · refine ⟨g, cap, rfl, (h.lt g rfl).2, fun i hi => ?_⟩
    rw [Nat.zero_add, h.cellAt (i * 2) (by omega), h.cellAt (i * 2 + 1) (by omega)]
    exact flat_get C i hi

set_option maxHeartbeats 1000000 in
set_option maxRecDepth 100000 in
theorem paths_skip (s c : Int) (l : List Int) (hl : l.length = 24) (a : Option Addr) (n cap : Nat) (w : World) (h1 : 60 < n) (h2 : n ≤ 1000) :
    Calls Try.prog 5 #[.agg (tabA s c l), .slice a n cap] w fun e w' => e = .returned (.bool true) ∧ Below w.heap.size w w' := by
  have HT := Lib.hid (TabAt.box w s c l 24)
  have i1 : (60 : Int) < (n : Int) := by omega
  have i2 : (n : Int) ≤ 1000 := by omega
  go_enter Try.func5, Try.ntmps5
  go_upto_region 1 with (fail)
  generalize w.alloc _ = wA at HT ⊢
  go_wp2_with (go_at_call 13; refine (awake_any _).mono ?_; rintro e w1 ⟨rfl, hb1⟩)
  go_ret
  exact ⟨rfl, (HT.out.call (by assumption)).below⟩

set_option maxHeartbeats 2000000 in
set_option maxRecDepth 100000 in
theorem paths_empty (s c : Int) (l : List Int) (hl : l.length = 24) (a : Option Addr) (cap : Nat) (w : World) :
    Calls Try.prog 5 #[.agg (tabA s c l), .slice a 0 cap] w fun e w' => e = .returned (.bool true) ∧ Below w.heap.size w w' := by
  have HL := Lib.hid hl
  have HT := Lib.hid (TabAt.box w s c l 24)
  have HS := Lib.hid (size_tab s c l hl)
  obtain ⟨v, e0, hp1, hp2⟩ := path_both0 s c l hl
  have HP1 := Lib.hid hp1
  have HP2 := Lib.hid hp2
  have hv : (v == v) = true := by simp
  have he : (e0 == e0) = true := by simp
  clear hl hp1 hp2
  go_enter Try.func5, Try.ntmps5
  go_upto_region 1 with (fail)
  generalize w.alloc _ = wA at HT ⊢
  go_wp2
  go_loop [5, 6] (fun v i => i = .int .i64 0 ∧ v = .slice none 0 0) (fun _ _ => 1)
  case atStart => exact ⟨rfl, rfl⟩
  case round =>
    obtain ⟨rfl, rfl⟩ := hrel
    go_upto_region 9 with (first
      | (refine wpList_load_mid rfl 24 (Operand.tmp 2) rfl w.heap.size 0 rfl (tabL s c l) _ HT.out.whole Try.underlying24 rfl HS.out ?_)
      | (go_at_call 20; refine (HP1.out _ _ _).mono ?_; rintro e w1 ⟨rfl, hb1⟩))
    have HT1 := Lib.hid (HT.out.call hb1)
    clear hb1
    go_wp2_with (first
      | (refine wpList_load_mid rfl 24 (Operand.tmp 2) rfl w.heap.size 0 rfl (tabL s c l) _ HT1.out.whole Try.underlying24 rfl HS.out ?_)
      | (go_at_call 8; refine (from_any s c l HL.out _).mono ?_; rintro e w2 ⟨rfl, hb2⟩)
      | (go_at_call 21; refine (HP2.out _ _ _).mono ?_; rintro e w3 ⟨rfl, hb3⟩)
      | (go_at_call 13; refine (awake_any _).mono ?_; rintro e w4 ⟨rfl, hb4⟩))
    go_ret
    exact ⟨rfl, (((HT1.out.call (by assumption)).call (by assumption)).call (by assumption)).below⟩

set_option maxHeartbeats 2000000 in
set_option maxRecDepth 100000 in
theorem paths_main (s c : Int) (l : List Int) (hl : l.length = 24) (b off cap : Nat) (C : List (Int × Int)) (w : World) (hr : C.length * 16 ≤ 140737488351232) (h0 : C.length ≤ 60 ∨ 1000 < C.length) (hn : 0 < C.length) (hC : CallsAt w b off C) :
    Calls Try.prog 5 #[.agg (tabA s c l), .slice (some ⟨b, off, none⟩) C.length cap] w fun e w' => e = .returned (.bool true) ∧ Below w.heap.size w w' := by
  have HL := Lib.hid hl
  have HT := Lib.hid (TabAt.box w s c l 24)
  have HS := Lib.hid (size_tab s c l hl)
  obtain ⟨v, e0, hp1, hp2⟩ := path_both s c l hl C (by omega)
  have HP1 := Lib.hid hp1
  have HP2 := Lib.hid hp2
  have HC := Lib.hid hC
  have hv : (v == v) = true := by simp
  have he : (e0 == e0) = true := by simp
  clear hl hp1 hp2 hC
  obtain ⟨i0, hi, hz0, hz1, hz2⟩ := info_parts info_call
  have HI := Lib.hid hi
  have HZ0 := Lib.hid hz0
  have HZ1 := Lib.hid hz1
  have HZ2 := Lib.hid hz2
  clear hi hz0 hz1 hz2
  obtain ⟨bq, hq1, hq2⟩ : ∃ bq : Bool, decide ((60 : Int) < (C.length : Int)) = bq ∧ (bq = true → decide ((C.length : Int) ≤ 1000) = false) := ⟨_, rfl, fun h => by simp at h ⊢; omega⟩
  go_enter Try.func5, Try.ntmps5
  go_upto_region 1 with (fail)
  generalize w.alloc _ = wA at HT ⊢
  have hq3 : (bq && decide ((C.length : Int) ≤ 1000)) = false := by cases bq <;> simp_all
  have hskip : decide ((60 : Int) < (C.length : Int)) = false ∨ (decide ((60 : Int) < (C.length : Int)) = true ∧ decide ((C.length : Int) ≤ 1000) = false) := by
    cases bq
    · exact .inl hq1
    · exact .inr ⟨hq1, hq2 rfl⟩
  clear hq1 hq2 hq3 h0
  rcases hskip with hsk | ⟨hsk, hsk2⟩
  all_goals
    go_wp2
    go_loopw [5, 6] (fun v i wr => ∃ k : Nat, k ≤ C.length ∧ i = .int .i64 k ∧ wr.ownsRow (w.heap.size + 1) 49 2 v k (flat (C.take k)) ∧ Hid (TabAt w w.heap.size s c l wr)) (fun _ i _ => C.length - (intOf i).toNat)
    case atStart => exact ⟨0, by omega, rfl, World.ownsRow_nil _ _ _ _, HT⟩
    case round =>
      obtain ⟨k, hk, rfl, hown, HTR⟩ := hrel
      by_cases hlt : k < C.length
      · have hki : (k : Int) < (C.length : Int) := by omega
        have hk0 : (0 : Int) ≤ (k : Int) := by omega
        have hcs := (HC.out.call HTR.out.below).2 k hlt
        obtain ⟨c1, c2⟩ := hcs
        have HFS := Lib.hid (flat_snoc C k hlt)
        have hwl : w.heap.size < wr.heap.size := HTR.out.2.2.2.2
        generalize C.getD k (0, 0) = x at c1 c2 HFS
        obtain ⟨xo, xb⟩ := x
        simp only at c1 c2
        have hbw : b < w.heap.size := HC.out.1
        have ag := mt (hown.lt b) (fun hh => by omega)
        go_upto_region 7 with (fail)
        go_region_held3 (fun w' => w'.cell? ⟨b, off + k * 2, none⟩ = some (.int .i64 xo) ∧ w'.cell? ⟨b, off + k * 2 + 1, none⟩ = some (.int .i64 xb))
          (first
            | go_keep
            | (go_split_ands
               refine ⟨?_, ?_⟩
               · (rw [hgrow.cell_far _ (by simp; omega) (Ne.symm ag)]; assumption)
               · (rw [hgrow.cell_far _ (by simp; omega) (Ne.symm ag)]; assumption)))
          ((refine step_append_lies _ (by rfl) _ _ _ (by rfl) (w.heap.size + 1) 49 i0 _ 2 16 Try.underlying46 HI.out HZ0.out HZ1.out HZ2.out rfl (by omega) _ _ _ (by rfl) ((hown.alloc _).drew)
              ⟨wr.heap.size, 0, none⟩ 1 1 [.int .i64 xo, .int .i64 xb] (by rfl) (by rfl) (World.news_of_block (cs := #[.int .i64 xo, .int .i64 xb]) (t := 49) (fr := (0, 0)) (heap_alloc_new wr _)) (by simp [Value.oneCell'])
              (by omega) (by unfold maxLen; omega) (by omega) (by simp; omega) (wr.heap.size + 1) (by simp) ?_; intro gg cap' w1 hown1 hgrow hat hlt2))
        have HN1 : Hid (w1.ownsRow (w.heap.size + 1) 49 2 (.slice (some ⟨gg, 0, none⟩) (k + 1) cap') (k + 1) (flat (C.take (k + 1)))) := by show World.ownsRow _ _ _ _ _ _ _; rw [HFS.out]; exact hown1
        have HTN := Lib.hid (call_round HTR.out hown.lt hgrow)
        clear hown hown1 hgrow hat hlt2
        go_wp2
        go_roundw
        case rel => exact ⟨k + 1, by omega, by go_num, HN1.out, HTN⟩
        case measure => simp [intOf]; omega
      · obtain rfl : k = C.length := by omega
        rw [List.take_length] at hown
        obtain ⟨g, cap', rfl, hca⟩ := own_calls hown hn
        have HCA := Lib.hid hca
        have HCB := Lib.hid (HC.out.call HTR.out.below)
        have hdd : decide ((C.length : Int) < (C.length : Int)) = false := by simp
        clear hca hown
        go_upto_region 9 with (first
          | (refine wpList_load_mid rfl 24 (Operand.tmp 2) rfl w.heap.size 0 rfl (tabL s c l) _ HTR.out.whole Try.underlying24 rfl HS.out ?_)
          | (go_at_call 20; refine (HP1.out _ _ _ _ HCB.out).mono ?_; rintro e w1 ⟨rfl, hb1⟩))
        have HT1 := Lib.hid (HTR.out.call hb1)
        have HCA1 := Lib.hid (HCA.out.call hb1)
        clear hb1
        go_wp2_with (first
          | (refine wpList_load_mid rfl 24 (Operand.tmp 2) rfl w.heap.size 0 rfl (tabL s c l) _ HT1.out.whole Try.underlying24 rfl HS.out ?_)
          | (go_at_call 8; refine (from_any s c l HL.out _).mono ?_; rintro e w2 ⟨rfl, hb2⟩)
          | (go_at_call 21; refine (HP2.out _ _ _ _ (HCA1.out.call hb2)).mono ?_; rintro e w3 ⟨rfl, hb3⟩)
          | (go_at_call 13; refine (awake_any _).mono ?_; rintro e w4 ⟨rfl, hb4⟩))
        go_ret
        exact ⟨rfl, (((HT1.out.call (by assumption)).call (by assumption)).call (by assumption)).below⟩
end Go.Proofs.Ytgbbidgmhmbehaa
