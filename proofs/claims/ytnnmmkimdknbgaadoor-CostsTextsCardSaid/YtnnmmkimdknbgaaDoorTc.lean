/- The contract of costs.Text. -/
import Derived.Test.YtnnmmkimdknbgaaDoorTb
import Derived.Lib.UnsafeStr
import Derived.Lib.SmallJoins
import Derived.Lib.ItoaLen
import Derived.Lib.AppendIntMem
namespace Go.Proofs.YtnnmmkimdknbgaaDoor
open Go.RowKit
set_option linter.unusedVariables false

/-! The text of a table -/
def lineB (k : Nat) (x : Int) : List UInt8 := lblB k ++ [32] ++ Lib.itoa x ++ [10]
/-- The first k lines. -/
def textUp : Nat → List Int → List UInt8
  | 0, _ => []
  | k + 1, m => textUp k m ++ lineB k (m.getD k 0)
def textB (m : List Int) : List UInt8 := textUp 26 m

theorem lblB_len : ∀ k, (lblB k).length ≤ 10 := by
  intro k
  by_cases h : k < 26
  · have e : ∀ j : Fin 26, (lblB j.1).length ≤ 10 := by decide
    exact e ⟨k, h⟩
  · have h0 : k ≠ 0 := by omega
    have h1 : k ≠ 1 := by omega
    have h2 : nmB.length ≤ k - 2 := by show 24 ≤ _; omega
    simp [lblB, h0, h1, List.getElem?_eq_none h2]
theorem textUp_len (m : List Int) (hm : ∀ i, 0 ≤ m.getD i 0 ∧ m.getD i 0 ≤ 1000) : ∀ k, (textUp k m).length ≤ 33 * k
  | 0 => by simp [textUp]
  | k + 1 => by
    have h := textUp_len m hm k
    have h2 := lblB_len k
    have h3 := Lib.itoa_length_le (m.getD k 0) (by have := (hm k).1; omega) (by have := (hm k).2; omega)
    simp only [textUp, lineB, List.length_append, List.length_singleton]
    omega
theorem okT.all {s c : Int} {l : List Int} (h : okT s c l) (i : Nat) : 0 ≤ (s :: c :: l).getD i 0 ∧ (s :: c :: l).getD i 0 ≤ 1000 := by
  match i with
  | 0 => have h1 := h.1; have h2 := h.2.1; simp only [List.getD_cons_zero]; omega
  | 1 => have h1 := h.2.2.1; have h2 := h.2.2.2.1; simp only [List.getD_cons_succ, List.getD_cons_zero]; omega
  | k + 2 =>
    simp only [List.getD_cons_succ]
    by_cases hk : k < l.length
    · have := h.cell k hk; omega
    · rw [List.getD_eq_getElem?_getD, List.getElem?_eq_none (by omega)]; simp

theorem IsB.below {T e : TypeId} {B b : Nat} {bs : List Value} {W W' : World} (h : Lib.IsBuilder T e B b bs W) (hb : Below W.heap.size W W') : Lib.IsBuilder T e B b bs W' := by
  have one : ∀ p, Lib.BuilderAt T e B b p bs W → Lib.BuilderAt T e B b p bs W' := fun p h => by
    have hlt := h.lt
    obtain ⟨hB, v, hv, hown, hne⟩ := h
    exact ⟨hB, v, (hb.block b hlt).trans hv, hown.kept (row := none) ⟨hb.os, hb.tape, hb.output, hb.size, fun k hk _ => hb.block k hk⟩ (Classical.em _), hne⟩
  exact h.elim (fun x => .inl (one _ x)) (fun x => .inr (one _ x))
theorem IsB.lt {T e : TypeId} {B b : Nat} {bs : List Value} {W : World} (h : Lib.IsBuilder T e B b bs W) : B ≤ W.heap.size := by
  rcases h with h | h
  · exact Nat.le_of_lt (Nat.lt_of_le_of_lt h.1 h.lt)
  · exact Nat.le_of_lt (Nat.lt_of_le_of_lt h.1 h.lt)
theorem strCells_mk (l : List UInt8) : Lib.strCells ⟨l.toArray⟩ = Lib.byteCells l := by simp [Lib.strCells, Lib.byteCells]
theorem byteCells_len (l : List UInt8) : (Lib.byteCells l).length = l.length := by simp [Lib.byteCells]

theorem index_row26 (m : List Int) (hm : m.length = 26) (k : Nat) (hk : k < 26) (w : World) : (Instr.index 51 (.agg (rowA m)) (.int .i64 (k : Int))).run Tryd.prog w = .ok (.int .i64 (m.getD k 0)) w := by
  have hz : ∀ w, (sizeOf 2).run Tryd.prog w = .ok 1 w := fun _ => by kernel_rfl
  have h0 : (0 : Int) ≤ k ∧ (k : Int) < 26 := by omega
  have hg : m[k]? = some (m.getD k 0) := by rw [List.getD_eq_getElem?_getD, List.getElem?_eq_getElem (by omega)]; rfl
  have hx : (m.map (Value.int .i64))[k]? = some (.int .i64 (m.getD k 0)) := by rw [List.getElem?_map, hg]; rfl
  have hr : rowA m = (m.map (Value.int .i64)).toArray := rfl
  rw [hr]
  generalize m.map (Value.int .i64) = q at hx
  generalize m.getD k 0 = z at hx
  simp [Instr.index, asIntOf, run_underlying Tryd.underlying51, run_underlying Tryd.underlying2, part, isAgg, hz, h0, hx]
  try (intro h; omega)

set_option maxHeartbeats 1000000 in
set_option maxRecDepth 100000 in
theorem text_bad (s c : Int) (l : List Int) (hl : l.length = 24) (w : World) (h : ¬ okT s c l) :
    Calls Tryd.prog 6 #[.agg (tabA s c l)] w fun e w' => e = .returned (.tuple #[.string ⟨#[]⟩, .int .i64 34]) ∧ Below w.heap.size w w' := by
  have HL := Lib.hid hl
  have HH := Lib.hid h
  have HT := Lib.hid (TabAt.box w s c l 24)
  have HS := Lib.hid (size_tab s c l hl)
  clear hl h
  go_enter Tryd.func6, Tryd.ntmps6
  go_wp2_with (first
    | (refine wpList_load_mid rfl 24 (Operand.tmp 1) rfl w.heap.size 0 rfl (tabL s c l) _ HT.out.whole Tryd.underlying24 rfl HS.out ?_)
    | (go_at_call 15; refine (check_no s c l HL.out _ HH.out).mono ?_; rintro e w1 ⟨rfl, hb⟩))
  go_ret2
  exact ⟨rfl, (HT.out.call hb).below⟩

theorem globalNamed_pow10 : Tryd.prog.globalNamed "internal/strconv.uint64pow10" = some 1 := by kernel_rfl
def BldObj : Obj := .cells #[.pointer none, .slice none 0 0] 50
set_option maxHeartbeats 4000000 in
set_option maxRecDepth 100000 in
theorem text_ok (s c : Int) (l : List Int) (hl : l.length = 24) (w : World) (h : okT s c l) (hN : NamesAt w) (hT : Lib.TabIs Tryd.prog w "internal/strconv.uint64pow10" .u64 Lib.pow10Tab) :
    Calls Tryd.prog 6 #[.agg (tabA s c l)] w fun e w' => e = .returned (.tuple #[.string ⟨(textB (s :: c :: l)).toArray⟩, .int .i64 0]) ∧ Below w.heap.size w w' := by
  have HL := Lib.hid hl
  have HH := Lib.hid h
  have HT := Lib.hid (TabAt.box w s c l 24)
  have HS := Lib.hid (size_tab s c l hl)
  have HN := Lib.hid hN
  have HTAB := Lib.hid hT
  clear hl h hN hT
  go_enter Tryd.func6, Tryd.ntmps6
  go_wp2_with (first
    | (refine wpList_load_mid rfl 24 (Operand.tmp 1) rfl w.heap.size 0 rfl (tabL s c l) _ HT.out.whole Tryd.underlying24 rfl HS.out ?_)
    | (go_at_call 15; refine (check_ok s c l HL.out _ HH.out).mono ?_))
  rintro e w1 ⟨rfl, hb1⟩
  have HT1 := Lib.hid (HT.out.call hb1)
  have HT2 := Lib.hid (HT1.out.call ((Below.refl w1.heap.size w1).alloc (Nat.le_refl _) BldObj))
  have HB0 := Lib.hid (Lib.fresh_isBuilder 50 5 w1)
  have hle1 : w.heap.size ≤ w1.heap.size := HT1.out.below.size
  clear hb1 HT
  go_wp2_with (first
    | (refine wpList_load_mid rfl 24 (Operand.tmp 1) rfl w.heap.size 0 rfl (tabL s c l) _ HT2.out.whole Tryd.underlying24 rfl HS.out ?_)
    | (go_at_call 16; refine (values_any s c l HL.out _).mono ?_))
  rintro e w2 ⟨rfl, hb2⟩
  have HB2 := Lib.hid (IsB.below HB0.out hb2)
  have HW2 := Lib.hid (HT2.out.below.trans (hb2.mono (Nat.le_trans hle1 (by simp))))
  have HM := Lib.hid HH.out.all
  have HML : Hid ((s :: c :: l).length = 26) := by show _ = _; simp [HL.out]
  clear hb2 HT1 HT2 HB0 HS HL HH
  generalize w1.heap.size = b at hle1 HB2 ⊢
  generalize hm : s :: c :: l = m at HM HML ⊢
  have HMQ := Lib.hid hm
  clear hm
  go_wp2
  go_loopw [15] (fun i wr => ∃ k : Nat, k ≤ 26 ∧ i = .int .i64 k ∧ Lib.IsBuilder 50 5 b b (Lib.byteCells (textUp k m)) wr ∧ Below w.heap.size w wr) (fun i _ => 26 - (intOf i).toNat)
  case atStart => exact ⟨0, by omega, rfl, HB2.out, HW2.out⟩
  case round =>
    obtain ⟨k, hk, rfl, hB, hbel⟩ := hrel
    by_cases hlt : k < 26
    · have hix := index_row26 m HML.out k hlt
      have HB := Lib.hid hB
      have HBE := Lib.hid hbel
      have HX := Lib.hid (HM.out k)
      have htl := textUp_len m HM.out k
      have hll := lblB_len k
      have hil := Lib.itoa_length_le (m.getD k 0) (by have := HX.out.1; omega) (by have := HX.out.2; omega)
      have HLEN : Hid ((Lib.byteCells (textUp k m)).length ≤ 858 ∧ (lbl k).size ≤ 10 ∧ (Lib.itoa (m.getD k 0)).length ≤ 21) := by
        refine ⟨?_, ?_, hil⟩
        · rw [byteCells_len]; omega
        · show (lblB k).toArray.size ≤ 10; simpa using hll
      have HNk := Lib.hid (NamesAt.below HN.out hbel)
      generalize hx : m.getD k 0 = x at hix HX HLEN
      have HXX := Lib.hid hx
      clear hx htl hll hil hB hbel
      go_wp2_with (first
        | (go_at_call 18; refine (label_any k _ hlt HNk.out).mono ?_; rintro e w' ⟨rfl, rfl⟩)
        | (go_at_call 17; refine (wstring b b _ (lbl k) _ HB.out (by have := HLEN.out.1; have := HLEN.out.2.1; omega) (IsB.lt HB.out)).mono ?_))
      rintro e w3 ⟨rfl, hB3, hb3⟩
      go_wp2_with (go_at_call 19; refine (wbyte b b _ 32 _ hB3 ?h1 (IsB.lt hB3)).mono ?_)
      case h1 => rw [List.length_append, Lib.strCells_length]; have := HLEN.out.1; have := HLEN.out.2.1; omega
      rintro e w4 ⟨rfl, hB4, hb4⟩
      have HB4 := Lib.hid hB4
      have hbe4 : Below w.heap.size w w4 := HBE.out.trans ((hb3.trans hb4).mono hle1)
      have htab4 : Lib.TabIs Tryd.prog w4 "internal/strconv.uint64pow10" .u64 Lib.pow10Tab := Joins.tab_stays globalNamed_pow10 HTAB.out hbe4 (Nat.le_refl _)
      have HT4 := Lib.hid htab4
      have HBE4 := Lib.hid hbe4
      clear hB3 hB4 hb3 hb4 hbe4 htab4
      go_wp2_with (go_at_call 20; refine (Tryd.strconv_FormatInt_10 x (by have := HX.out.1; omega) (by have := HX.out.2; omega) _ HT4.out).mono ?_)
      rintro e w5 ⟨rfl, kk, os, hw5⟩
      have hb5 : Below w4.heap.size w4 w5 := by rw [hw5]; exact Lib.below_grow _ _ (Nat.le_refl _) _ _
      have HB5 := Lib.hid (IsB.below HB4.out hb5)
      have HBE5 := Lib.hid (HBE4.out.trans (hb5.mono HBE4.out.size))
      clear hb5 hw5 HB4 HBE4
      go_wp2_with (go_at_call 17; refine (wstring b b _ ⟨(Lib.itoa x).toArray⟩ _ HB5.out ?h2 (IsB.lt HB5.out)).mono ?_)
      case h2 =>
        have e : (ByteArray.mk (Lib.itoa x).toArray).size = (Lib.itoa x).length := rfl
        rw [e, List.length_append, List.length_append, Lib.strCells_length]
        have := HLEN.out.1; have := HLEN.out.2.1; have := HLEN.out.2.2; simp only [List.length_singleton]; omega
      rintro e w6 ⟨rfl, hB6, hb6⟩
      go_wp2_with (go_at_call 19; refine (wbyte b b _ 10 _ hB6 ?h3 (IsB.lt hB6)).mono ?_)
      case h3 =>
        have e : (ByteArray.mk (Lib.itoa x).toArray).size = (Lib.itoa x).length := rfl
        rw [List.length_append, List.length_append, List.length_append, Lib.strCells_length, Lib.strCells_length, e]
        have := HLEN.out.1; have := HLEN.out.2.1; have := HLEN.out.2.2; simp only [List.length_singleton]; omega
      rintro e w7 ⟨rfl, hB7, hb7⟩
      have HB7 : Hid (Lib.IsBuilder 50 5 b b (Lib.byteCells (textUp (k + 1) m)) w7) := by
        have e : Lib.byteCells (textUp (k + 1) m) = Lib.byteCells (textUp k m) ++ Lib.strCells (lbl k) ++ [.int .u8 32] ++ Lib.strCells ⟨(Lib.itoa x).toArray⟩ ++ [.int .u8 10] := by
          have l1 : Lib.strCells (lbl k) = Lib.byteCells (lblB k) := strCells_mk _
          rw [l1, strCells_mk, textUp, HXX.out, lineB]
          simp only [Lib.byteCells_append, List.append_assoc]
          rfl
        show Lib.IsBuilder _ _ _ _ _ _
        rw [e]; exact hB7
      have HBE7 := Lib.hid (HBE5.out.trans ((hb6.trans hb7).mono hle1))
      clear hB6 hb6 hB7 hb7 HB5 HBE5
      go_wp2
      go_roundw
      case rel => exact ⟨k + 1, by omega, by go_num, HB7.out, HBE7.out⟩
      case measure => simp [intOf]; omega
    · obtain rfl : k = 26 := by omega
      have HB := Lib.hid hB
      have HBE := Lib.hid hbel
      have HBL := Lib.hid (IsB.lt hB)
      clear hB hbel
      go_wp2_with (go_at_call 21; refine (Tryd.Builder_String_any b b _ _ HB.out HBL.out).mono ?_)
      rintro e w8 ⟨rfl, hb8⟩
      go_wp2
      go_ret2
      exact ⟨by rw [HMQ.out]; rfl, HBE.out.trans (hb8.mono hle1)⟩
end Go.Proofs.YtnnmmkimdknbgaaDoor
