/- The contracts of the specification's label and Text. -/
import Derived.Test.YtnnmmkimdknbgaaDoorTd
import Derived.Test.YtnnmmkimdknbgaaDoorRa
import Derived.Deep.RegionHeld3
namespace Go.Proofs.YtnnmmkimdknbgaaDoor
open Go.RowKit
set_option linter.unusedVariables false

set_option maxHeartbeats 400000 in
theorem rlabel_any (k : Nat) (w : World) (h : k < 26) : Calls Tryd.prog 28 #[.int .i64 k] w fun e w' => e = .returned (.string (lbl k)) ∧ Below w.heap.size w w' := by
  by_cases h0 : k = 0
  · subst h0
    go_enter Tryd.func28, Tryd.ntmps28
    go_wp2_with fail
    go_ret
    exact ⟨rfl, Below.refl _ _⟩
  by_cases h1 : k = 1
  · subst h1
    go_enter Tryd.func28, Tryd.ntmps28
    go_wp2_with fail
    go_ret
    exact ⟨rfl, Below.refl _ _⟩
  have HLB := Lib.hid (lbl_nm h0 h1)
  have d0 : ((k : Int) == 0) = false := beq_eq_false_iff_ne.2 (by omega)
  have d1 : ((k : Int) == 1) = false := beq_eq_false_iff_ne.2 (by omega)
  obtain ⟨j, rfl⟩ : ∃ j, k = j + 2 := ⟨k - 2, by omega⟩
  have hj : j < 24 := by omega
  have e2 : ((j + 2 : Nat) : Int) - 2 = (j : Int) := by omega
  have hj0 : (0 : Int) ≤ j := by omega
  have hj1 : (j : Int) < 24 := by omega
  have HLB2 : Hid (lbl (j + 2) = nm j) := HLB.out
  clear h0 h1 h
  go_enter Tryd.func28, Tryd.ntmps28
  go_wp2_with (go_at_call 24; refine (refnames_any _).mono ?_; rintro e w1 ⟨rfl, hc, hb, _⟩; have hck := hc j hj; clear hc)
  go_ret
  exact ⟨by rw [HLB2.out]; rfl, by assumption⟩

set_option maxHeartbeats 1000000 in
set_option maxRecDepth 100000 in
theorem reftext_bad (s c : Int) (l : List Int) (hl : l.length = 24) (w : World) (h : ¬ okT s c l) :
    Calls Tryd.prog 7 #[.agg (tabA s c l)] w fun e w' => e = .returned (.tuple #[.string ⟨#[]⟩, .int .i64 34]) ∧ Below w.heap.size w w' := by
  have HL := Lib.hid hl
  have HH := Lib.hid h
  have HT := Lib.hid (TabAt.box w s c l 30)
  have HS := Lib.hid (size_rtab s c l hl)
  clear hl h
  go_enter Tryd.func7, Tryd.ntmps7
  go_wp2_with (first
    | (refine wpList_load_mid rfl 30 (Operand.tmp 1) rfl w.heap.size 0 rfl (tabL s c l) _ HT.out.whole Tryd.underlying30 rfl HS.out ?_)
    | (go_at_call 22; refine (refcheck_no s c l HL.out _ HH.out).mono ?_; rintro e w1 ⟨rfl, hb⟩))
  go_ret2
  exact ⟨rfl, (HT.out.call hb).below⟩

theorem text_two (s c : Nat) (l : List Int) : (⟨#[115, 101, 99, 116, 105, 111, 110, 32]⟩ : ByteArray) ++ dec s ++ ⟨#[10, 99, 111, 112, 121, 32]⟩ ++ dec c ++ ⟨#[10]⟩ = ⟨(textUp 2 ((s : Int) :: (c : Int) :: l)).toArray⟩ := by
  refine ByteArray.ext ?_
  simp [ByteArray.data_append, dec, textUp, lineB, lblB, Lib.itoa_nonneg]
theorem text_step (m : List Int) (k u : Nat) (hx : m.getD (k + 2) 0 = (u : Int)) : (⟨(textUp (k + 2) m).toArray⟩ : ByteArray) ++ (nm k ++ ⟨#[32]⟩ ++ dec u ++ ⟨#[10]⟩) = ⟨(textUp (k + 1 + 2) m).toArray⟩ := by
  have e : textUp (k + 1 + 2) m = textUp (k + 2) m ++ lineB (k + 2) (m.getD (k + 2) 0) := rfl
  have e2 : lblB (k + 2) = nmB.getD k [] := by simp [lblB]
  rw [e, hx, lineB, Lib.itoa_nonneg, e2]
  refine ByteArray.ext ?_
  simp [ByteArray.data_append, dec, nm]
theorem nm_size (k : Nat) : (nm k).size ≤ 10 := by
  have e : lblB (k + 2) = nmB.getD k [] := by simp [lblB]
  have := lblB_len (k + 2)
  rw [e] at this
  exact this

set_option maxHeartbeats 4000000 in
set_option maxRecDepth 100000 in
theorem reftext_ok (s c : Nat) (l : List Int) (hl : l.length = 24) (w : World) (h : okT s c l) :
    Calls Tryd.prog 7 #[.agg (tabA s c l)] w fun e w' => e = .returned (.tuple #[.string ⟨(textB ((s : Int) :: (c : Int) :: l)).toArray⟩, .int .i64 0]) ∧ Below w.heap.size w w' := by
  have HL := Lib.hid hl
  have HH := Lib.hid h
  have HT := Lib.hid (TabAt.box w s c l 30)
  have HS := Lib.hid (size_rtab s c l hl)
  have HD := Lib.hid (digits_any s (by have := h.2.1; omega))
  have HC := Lib.hid (digits_any c (by have := h.2.2.2.1; omega))
  have hs20 := dec_len s (by have := h.2.1; omega)
  have hc20 := dec_len c (by have := h.2.2.2.1; omega)
  have n1 : ¬ 9223372036854775807 < 8 + (dec s).size := by omega
  have n2 : ¬ 9223372036854775807 < 8 + (dec s).size + 6 := by omega
  have n3 : ¬ 9223372036854775807 < 8 + (dec s).size + 6 + (dec c).size := by omega
  have n4 : ¬ 9223372036854775807 < 8 + (dec s).size + 6 + (dec c).size + 1 := by omega
  clear hl h hs20 hc20
  go_enter Tryd.func7, Tryd.ntmps7
  go_wp2_with (first
    | (refine wpList_load_mid rfl 30 (Operand.tmp 1) rfl w.heap.size 0 rfl (tabL s c l) _ HT.out.whole Tryd.underlying30 rfl HS.out ?_)
    | (go_at_call 22; refine (refcheck_ok s c l HL.out _ HH.out).mono ?_))
  rintro e w1 ⟨rfl, hb1⟩
  have HT1 := Lib.hid (HT.out.call hb1)
  have c0 := HT1.out.1
  have c1 := HT1.out.2.1
  clear hb1 HT
  go_upto_region 3 with (fail)
  go_region_held3 (fun w' => w'.cell? ⟨w.heap.size, 0, none⟩ = some (.int .i64 (s : Int)) ∧ w'.cell? ⟨w.heap.size, 1, none⟩ = some (.int .i64 (c : Int))) (go_keep) (first
    | (go_at_call_of 23 (Value.int .i64 (s : Int)); refine (HD.out _).mono ?_; rintro e w' ⟨rfl, rfl⟩)
    | (go_at_call_of 23 (Value.int .i64 (c : Int)); refine (HC.out _).mono ?_; rintro e w' ⟨rfl, rfl⟩))
  have HTT := Lib.hid (text_two s c l)
  rw [HTT.out]
  have HM := Lib.hid HH.out.all
  have HT2 := Lib.hid HT1.out.drew
  have hle : w.heap.size < w1.drew.heap.size := HT1.out.2.2.2.2
  have hbase := HT1.out.2.2.2.1.drew
  clear HTT c0 c1 n1 n2 n3 n4 HD HC
  generalize hm : (s : Int) :: (c : Int) :: l = m at HM ⊢
  generalize w1.drew = wA at HT2 hle hbase ⊢
  have HX : Hid (∀ k, k < 24 → m.getD (k + 2) 0 = l.getD k 0) := by show ∀ _, _; intro k _; rw [← hm]; rfl
  have HMQ := Lib.hid hm
  clear hm HT1
  go_wp2
  go_loopw [4, 5] (fun v i wr => ∃ k : Nat, k ≤ 24 ∧ i = .int .i64 k ∧ v = .string ⟨(textUp (k + 2) m).toArray⟩ ∧ TabAt w w.heap.size s c l wr) (fun _ i _ => 24 - (intOf i).toNat)
  case atStart => exact ⟨0, by omega, rfl, rfl, HT2.out⟩
  case round =>
    obtain ⟨k, hk, rfl, rfl, htab⟩ := hrel
    by_cases hlt : k < 24
    · have hX := HX.out k hlt
      have hcell0 := htab.cell k (by rw [HL.out]; exact hlt)
      have hxb := HM.out (k + 2)
      obtain ⟨u, hu⟩ : ∃ u : Nat, m.getD (k + 2) 0 = (u : Int) := ⟨(m.getD (k + 2) 0).toNat, by omega⟩
      have HST := Lib.hid (text_step m k u hu)
      have HT := Lib.hid htab
      have hlt0 : w.heap.size < wr.heap.size := htab.2.2.2.2
      have HCELL : Hid (wr.cell? ⟨w.heap.size, 2 + k, none⟩ = some (.int .i64 (u : Int))) := by show _ = _; rw [← hu, hX]; exact hcell0
      have hd20 := dec_len u (by omega)
      have hn10 := nm_size k
      have hu9 : u < 4611686018427387904 := by omega
      have HD := Lib.hid (digits_any u hu9)
      have htl := textUp_len m HM.out (k + 2)
      have hts : (⟨(textUp (k + 2) m).toArray⟩ : ByteArray).size ≤ 858 := by show (textUp (k + 2) m).toArray.size ≤ 858; rw [List.size_toArray]; omega
      generalize (⟨(textUp (k + 2) m).toArray⟩ : ByteArray) = tb at HST hts ⊢
      have n1 : ¬ 9223372036854775807 < (nm k).size + 1 := by omega
      have n2 : ¬ 9223372036854775807 < (nm k).size + 1 + (dec u).size := by omega
      have n3 : ¬ 9223372036854775807 < (nm k).size + 1 + (dec u).size + 1 := by omega
      have n4 : ¬ 9223372036854775807 < tb.size + ((nm k).size + 1 + (dec u).size + 1) := by omega
      have i0 : (0 : Int) ≤ k := by omega
      have i1 : (k : Int) < 24 := by omega
      have hcell := HCELL.out
      clear hX hcell0 hxb hu hd20 hn10 hu9 htl hts htab
      go_upto_region 7 with (fail)
      go_region_with (first
        | (go_at_call 24; refine (refnames_any _).mono ?_; rintro e w3 ⟨rfl, hc3, hb3, _⟩; have hck : w3.cell? ⟨wr.heap.size, k, none⟩ = some (.string (nm k)) := hc3 k hlt; have hS3 : w3.cell? ⟨w.heap.size, 2 + k, none⟩ = some (.int .i64 (u : Int)) := (hb3.cell (p := ⟨w.heap.size, 2 + k, none⟩) hlt0).trans HCELL.out; clear hc3)
        | (go_at_call 23; refine (HD.out _).mono ?_; rintro e w' ⟨rfl, rfl⟩))
      all_goals
        rw [HST.out]
        have HB := Lib.hid (HT.out.drew.call hb3)
        clear hb3 hcell
        go_wp2
        go_roundw
        case rel => exact ⟨k + 1, by omega, by go_num, rfl, HB.out⟩
        case measure => simp [intOf]; omega
    · obtain rfl : k = 24 := by omega
      go_wp2
      go_ret2
      exact ⟨by rw [HMQ.out]; rfl, htab.below⟩
end Go.Proofs.YtnnmmkimdknbgaaDoor
