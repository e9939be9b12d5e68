/- The walk of the law CostsBack. -/
import Derived.Test.YtnnmmkimdknbgaaDoorTs
namespace Go.Proofs.YtnnmmkimdknbgaaDoor
open Go.RowKit
set_option linter.unusedVariables false

/-- Parse of the text of a table is the table. -/
theorem pOut_text (s c : Int) (l : List Int) (hl : l.length = 24) (h : okT s c l) : pOut ⟨(textB (s :: c :: l)).toArray⟩ = ⟨s, c, l, 0, 0⟩ := by
  have hsz : (⟨(textB (s :: c :: l)).toArray⟩ : ByteArray).size ≤ 65536 := by
    have := textUp_len (s :: c :: l) h.all 26
    show (textB (s :: c :: l)).toArray.size ≤ _
    rw [List.size_toArray, textB]; omega
  refine pOut_ok hsz (parse_text (s :: c :: l) (by simp [hl]) h.all) ?_ h
  have : ∀ m : List Int, (∀ i, 0 ≤ m.getD i 0) → (m.map Int.toNat).map Int.ofNat = m := by
    intro m
    induction m with
    | nil => intro _; rfl
    | cons a m ih =>
      intro hm
      have h0 : 0 ≤ a := hm 0
      rw [List.map_cons, List.map_cons, ih fun i => hm (i + 1)]
      congr 1
      exact Int.toNat_of_nonneg h0
  exact this _ fun i => (h.all i).1
/-- Text of what Parse accepts is the string. -/
theorem pOut_back (b : ByteArray) : (pOut b).code ≠ 0 ∨ ((pOut b).code = 0 ∧ okT (pOut b).s (pOut b).c (pOut b).l ∧ (⟨(textB ((pOut b).s :: (pOut b).c :: (pOut b).l)).toArray⟩ : ByteArray) = b) := by
  by_cases hs : 65536 < b.size
  · left; rw [pOut, if_pos hs]; simp
  · cases hp : parseV b.data.toList with
    | inl a => left; rw [pOut_bad (by omega) hp]; simp
    | inr m =>
      have hm : m.length = 26 := runV_len _ _ _ _ hp
      obtain ⟨x, y, l, hxy⟩ : ∃ x y l, m.map Int.ofNat = x :: y :: l := by
        match m, hm with
        | p :: q :: r, _ => exact ⟨_, _, _, rfl⟩
      by_cases hok : okT x y l
      · right
        rw [pOut_ok (by omega) hp hxy hok]
        refine ⟨rfl, hok, ByteArray.ext (Array.toList_inj.1 ?_)⟩
        have := text_parse b.data.toList m hp
        rw [hxy] at this
        exact this
      · left; rw [pOut_range (by omega) hp hxy hok]; simp
theorem neq_tabL (s c : Int) (l : List Int) (hl : l.length = 24) (w : World) : (binOp .neq 24 (.agg (tabA s c l)) (.agg (tabL s c l).toArray)).run Tryd.prog w = .ok (.bool false) w := neq_tab s c l hl w

theorem back_skip (s c : Int) (l : List Int) (hl : l.length = 24) (b : ByteArray) (w : World) (h1 : 1000 < b.size) :
    Calls Tryd.prog 4 #[.agg (tabA s c l), .string b] w fun e w' => e = .returned (.bool true) ∧ Below w.heap.size w w' := by
  have HT := Lib.hid (TabAt.box w s c l 24)
  have i1 : (1000 : Int) < b.size := by omega
  clear h1 hl
  go_enter Tryd.func4, Tryd.ntmps4
  go_upto_region 1 with (fail)
  generalize w.alloc _ = wA at HT ⊢
  go_wp2_with (go_at_call 5; refine (awake_any _).mono ?_; rintro e w1 ⟨rfl, hb1⟩)
  go_ret
  exact ⟨rfl, (HT.out.call (by assumption)).below⟩

set_option maxHeartbeats 4000000 in
set_option maxRecDepth 100000 in
theorem back_walk (s c : Int) (l : List Int) (hl : l.length = 24) (b : ByteArray) (w : World) (h : b.size ≤ 1000) (hN : NamesAt w) (hP : P10 w) :
    Calls Tryd.prog 4 #[.agg (tabA s c l), .string b] w fun e w' => e = .returned (.bool true) ∧ Below w.heap.size w w' := by
  have HL := Lib.hid hl
  have HT := Lib.hid (TabAt.box w s c l 24)
  have HS := Lib.hid (size_tab s c l hl)
  have HN := Lib.hid hN
  have HP := Lib.hid hP
  have HB0 : Hid (Below w.heap.size w (w.alloc (.cells (tabA s c l) 24))) := (Below.refl _ _).alloc (Nat.le_refl _) _
  have hi : ¬ (1000 : Int) < b.size := by omega
  have HO := Lib.hid (pOut_len b)
  have HBK := Lib.hid (pOut_back b)
  have HPC : Hid (∀ w, NamesAt w → Calls Tryd.prog 9 #[.string b] w fun e w' => e = .returned (.tuple #[.agg (tabA (pOut b).s (pOut b).c (pOut b).l), .agg (faultA (pOut b).at_ (pOut b).code)]) ∧ Below w.heap.size w w') := fun w hN => parse_any b w hN
  generalize (pOut b).s = ps at HPC HBK
  generalize (pOut b).c = pc at HPC HBK
  generalize (pOut b).l = pl at HPC HO HBK
  generalize (pOut b).at_ = pa at HPC
  generalize (pOut b).code = pe at HPC HBK
  clear hl h hN hP
  go_enter Tryd.func4, Tryd.ntmps4
  go_upto_region 1 with (fail)
  generalize w.alloc _ = wA at HT HB0 ⊢
  have HNA := Lib.hid (NamesAt.below HN.out HB0.out)
  have HPA := Lib.hid (P10.below HP.out HB0.out)
  by_cases hok : okT s c l
  · have HTX := Lib.hid (text_ok s c l HL.out wA hok HNA.out HPA.out)
    have HPT : Hid (∀ w, NamesAt w → Calls Tryd.prog 9 #[.string ⟨(textB (s :: c :: l)).toArray⟩] w fun e w' => e = .returned (.tuple #[.agg (tabA s c l), .agg (faultA 0 0)]) ∧ Below w.heap.size w w') := fun w hN => by
      have := parse_any ⟨(textB (s :: c :: l)).toArray⟩ w hN
      rw [pOut_text s c l HL.out hok] at this
      exact this
    generalize (⟨(textB (s :: c :: l)).toArray⟩ : ByteArray) = T at HTX HPT
    have hed := neq_tabL s c l HL.out
    clear hok
    go_upto_region 4 with (first
      | (refine wpList_load_mid rfl 24 (Operand.tmp 2) rfl w.heap.size 0 rfl (tabL s c l) _ HT.out.whole Tryd.underlying24 rfl HS.out ?_)
      | (go_at_call 6; refine HTX.out.mono ?_; rintro e w1 ⟨rfl, hb1⟩))
    have HTA := Lib.hid (HT.out.call hb1)
    have HNB := Lib.hid (NamesAt.below HNA.out hb1)
    have HPB := Lib.hid (P10.below HPA.out hb1)
    clear hb1
    have HSX := Lib.hid (size_tabA s c l HL.out)
    have HSG := Lib.hid (size_fault 0 0)
    have HY : Hid ((tabA 0 0 zeroL).size = (tabA s c l).size) := by show (tabA 0 0 zeroL).size = (tabA s c l).size; rw [tabA_size, tabA_size, HL.out]; rfl
    rw [zeros26] at HY
    go_upto_region 6 with (first
      | (go_at_call 9; refine (HPT.out _ HNB.out).mono ?_; rintro e w4 ⟨rfl, hb4⟩)
      | (refine wpList_store_row rfl 24 (Operand.tmp 7) (Operand.tmp 27) rfl w4.heap.size (tabA s c l) rfl rfl 24 _ ((RowAt.new w4 _ _).alloc _) HSX.out HY.out (tabA_one _ _ _) ?_)
      | (refine wpList_store_row rfl 33 (Operand.tmp 8) (Operand.tmp 28) rfl (w4.heap.size + 1) (faultA 0 0) rfl rfl 33 _ (RowAt.otherRow (heap_alloc2_new _ _ _) (by omega) _) HSG.out rfl (faultA_one _ _) ?_))
    simp only [Act.put]
    generalize hW : World.setRow (World.setRow (World.alloc (World.alloc w4 _) _) _ _) _ _ = wB
    obtain ⟨q1, q2, q3, q4⟩ := two_rows w4 _ _ _ _ _ _ hW
    have Q1 := Lib.hid q1
    have HTC := Lib.hid ((HTA.out.call hb4).call q3)
    have HNC := Lib.hid (NamesAt.below (NamesAt.below HNB.out hb4) q3)
    have HPD := Lib.hid (P10.below (P10.below HPB.out hb4) q3)
    have f0 : wB.cell? ⟨w4.heap.size + 1, 0, none⟩ = some (.int .i64 0) := q2.cell 0
    have f1 : wB.cell? ⟨w4.heap.size + 1, 1, none⟩ = some (.int .i64 0) := q2.cell 1
    clear hW q1 q2 q3 q4 hb4
    generalize w4.heap.size = g at Q1 f0 f1 ⊢
    go_upto_region 8 with (first
      | (refine wpList_load_row rfl 24 (Operand.tmp 7) rfl g rfl 24 (tabA s c l) (0, 0) _ Q1.out Tryd.underlying24 rfl HSX.out ?_)
      | (refine wpList_load_mid rfl 24 (Operand.tmp 2) rfl w.heap.size 0 rfl (tabL s c l) _ HTC.out.whole Tryd.underlying24 rfl HS.out ?_))
    clear f0 f1 hed
    have HSP := Lib.hid (size_tabA ps pc pl HO.out)
    have HSF := Lib.hid (size_fault pa pe)
    have HZ : Hid ((tabA 0 0 zeroL).size = (tabA ps pc pl).size) := by show (tabA 0 0 zeroL).size = (tabA ps pc pl).size; rw [tabA_size, tabA_size, HO.out]; rfl
    rw [zeros26] at HZ
    go_upto_region 9 with (first
      | (go_at_call 9; refine (HPC.out _ HNC.out).mono ?_; rintro e w6 ⟨rfl, hb6⟩)
      | (refine wpList_store_row rfl 24 (Operand.tmp 9) (Operand.tmp 45) rfl w6.heap.size (tabA ps pc pl) rfl rfl 24 _ ((RowAt.new w6 _ _).alloc _) HSP.out HZ.out (tabA_one _ _ _) ?_)
      | (refine wpList_store_row rfl 33 (Operand.tmp 10) (Operand.tmp 46) rfl (w6.heap.size + 1) (faultA pa pe) rfl rfl 33 _ (RowAt.otherRow (heap_alloc2_new _ _ _) (by omega) _) HSF.out rfl (faultA_one _ _) ?_))
    simp only [Act.put]
    generalize hW : World.setRow (World.setRow (World.alloc (World.alloc w6 _) _) _ _) _ _ = wF
    obtain ⟨q1, q2, q3, q4⟩ := two_rows w6 _ _ _ _ _ _ hW
    have R1 := Lib.hid q1
    have HTF := Lib.hid ((HTC.out.call hb6).call q3)
    have HNF := Lib.hid (NamesAt.below (NamesAt.below HNC.out hb6) q3)
    have HPF := Lib.hid (P10.below (P10.below HPD.out hb6) q3)
    have fc : wF.cell? ⟨w6.heap.size + 1, 1, none⟩ = some (.int .i64 pe) := q2.cell 1
    clear hW q1 q2 q3 q4 hb6
    generalize w6.heap.size = h at R1 fc ⊢
    rcases HBK.out with hne | ⟨h0, hok, htx⟩
    · have hpe : (pe == 0) = false := beq_eq_false_iff_ne.2 hne
      clear hne
      go_wp2_with (go_at_call 5; refine (awake_any _).mono ?_; rintro e w7 ⟨rfl, hb7⟩)
      go_ret
      exact ⟨rfl, (HTF.out.call (by assumption)).below⟩
    · subst h0
      have HTX := Lib.hid (text_ok ps pc pl HO.out wF hok HNF.out HPF.out)
      rw [htx] at HTX
      have hq := seq_yes (a := b) (b := b) rfl
      clear hok htx
      go_wp2_with (first
        | (refine wpList_load_row rfl 24 (Operand.tmp 9) rfl h rfl 24 (tabA ps pc pl) (0, 0) _ R1.out Tryd.underlying24 rfl HSP.out ?_)
        | (go_at_call 6; refine HTX.out.mono ?_; rintro e w7 ⟨rfl, hb7⟩)
        | (go_at_call 5; refine (awake_any _).mono ?_; rintro e w8 ⟨rfl, hb8⟩))
      go_ret
      exact ⟨rfl, ((HTF.out.call (by assumption)).call (by assumption)).below⟩
  · have HTX := Lib.hid (text_bad s c l HL.out wA hok)
    clear hok
    go_upto_region 4 with (first
      | (refine wpList_load_mid rfl 24 (Operand.tmp 2) rfl w.heap.size 0 rfl (tabL s c l) _ HT.out.whole Tryd.underlying24 rfl HS.out ?_)
      | (go_at_call 6; refine HTX.out.mono ?_; rintro e w1 ⟨rfl, hb1⟩))
    have HTA := Lib.hid (HT.out.call hb1)
    have HNB := Lib.hid (NamesAt.below HNA.out hb1)
    have HPB := Lib.hid (P10.below HPA.out hb1)
    clear hb1
    have HSP := Lib.hid (size_tabA ps pc pl HO.out)
    have HSF := Lib.hid (size_fault pa pe)
    have HZ : Hid ((tabA 0 0 zeroL).size = (tabA ps pc pl).size) := by show (tabA 0 0 zeroL).size = (tabA ps pc pl).size; rw [tabA_size, tabA_size, HO.out]; rfl
    rw [zeros26] at HZ
    go_upto_region 9 with (first
      | (go_at_call 9; refine (HPC.out _ HNB.out).mono ?_; rintro e w6 ⟨rfl, hb6⟩)
      | (refine wpList_store_row rfl 24 (Operand.tmp 9) (Operand.tmp 45) rfl w6.heap.size (tabA ps pc pl) rfl rfl 24 _ ((RowAt.new w6 _ _).alloc _) HSP.out HZ.out (tabA_one _ _ _) ?_)
      | (refine wpList_store_row rfl 33 (Operand.tmp 10) (Operand.tmp 46) rfl (w6.heap.size + 1) (faultA pa pe) rfl rfl 33 _ (RowAt.otherRow (heap_alloc2_new _ _ _) (by omega) _) HSF.out rfl (faultA_one _ _) ?_))
    simp only [Act.put]
    generalize hW : World.setRow (World.setRow (World.alloc (World.alloc w6 _) _) _ _) _ _ = wF
    obtain ⟨q1, q2, q3, q4⟩ := two_rows w6 _ _ _ _ _ _ hW
    have R1 := Lib.hid q1
    have HTF := Lib.hid ((HTA.out.call hb6).call q3)
    have HNF := Lib.hid (NamesAt.below (NamesAt.below HNB.out hb6) q3)
    have HPF := Lib.hid (P10.below (P10.below HPB.out hb6) q3)
    have fc : wF.cell? ⟨w6.heap.size + 1, 1, none⟩ = some (.int .i64 pe) := q2.cell 1
    clear hW q1 q2 q3 q4 hb6
    generalize w6.heap.size = h at R1 fc ⊢
    rcases HBK.out with hne | ⟨h0, hok, htx⟩
    · have hpe : (pe == 0) = false := beq_eq_false_iff_ne.2 hne
      clear hne
      go_wp2_with (go_at_call 5; refine (awake_any _).mono ?_; rintro e w7 ⟨rfl, hb7⟩)
      go_ret
      exact ⟨rfl, (HTF.out.call (by assumption)).below⟩
    · subst h0
      have HTX := Lib.hid (text_ok ps pc pl HO.out wF hok HNF.out HPF.out)
      rw [htx] at HTX
      have hq := seq_yes (a := b) (b := b) rfl
      clear hok htx
      go_wp2_with (first
        | (refine wpList_load_row rfl 24 (Operand.tmp 9) rfl h rfl 24 (tabA ps pc pl) (0, 0) _ R1.out Tryd.underlying24 rfl HSP.out ?_)
        | (go_at_call 6; refine HTX.out.mono ?_; rintro e w7 ⟨rfl, hb7⟩)
        | (go_at_call 5; refine (awake_any _).mono ?_; rintro e w8 ⟨rfl, hb8⟩))
      go_ret
      exact ⟨rfl, ((HTF.out.call (by assumption)).call (by assumption)).below⟩
end Go.Proofs.YtnnmmkimdknbgaaDoor
