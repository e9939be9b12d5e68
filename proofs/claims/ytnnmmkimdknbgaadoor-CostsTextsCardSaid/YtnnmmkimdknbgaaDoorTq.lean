/- The contract of the specification's Parse. -/
import Derived.Test.YtnnmmkimdknbgaaDoorTp
import Derived.Test.YtnnmmkimdknbgaaDoorTe
import Derived.Deep.Cut
namespace Go.Proofs.YtnnmmkimdknbgaaDoor
open Go.RowKit Go.Shelf
set_option linter.unusedVariables false

theorem wpList_build_at {P : Program} {ops : Array Oper} {rest : List Oper} {o : Oper} {a : Act} {w : World} {Q : Exit → Act → World → Prop} (hgd : o.guard = none) (t : TypeId) (parts : Array (Nat × Operand)) (ho : o.op = .build t parts) (cells : Array Value)
    (hf : P.built t (parts.map fun (i, x) => (i, a.eval x)).toList = some cells) (h : wpList P ops Q rest (a.put o.dst (.agg cells)) w) : wpList P ops Q (o :: rest) a w :=
  wpList_plain hgd fun _ hK => wp_build_at t parts ho cells hf (hK _ _ h)

set_option maxRecDepth 100000 in
set_option maxHeartbeats 4000000 in
theorem rparse_long (s : ByteArray) (w : World) (h : 65536 < s.size) : Calls Tryd.prog 10 #[.string s] w fun e w' => e = pEnd (pOut s) ∧ Below w.heap.size w w' := by
  have HP : Hid (pOut s = ⟨0, 0, zeroL, 0, 18⟩) := by show _ = _; rw [pOut, if_pos h]
  have HR0 : Hid (RowAt ((w.alloc (.cells (tabA 0 0 zeroL) 30)).alloc (.cells (faultA 0 0) 33)) w.heap.size 30 (tabA 0 0 zeroL)) := heap_alloc2_old _ _ _
  have HR1 : Hid (RowAt ((w.alloc (.cells (tabA 0 0 zeroL) 30)).alloc (.cells (faultA 0 0) 33)) (w.heap.size + 1) 33 (faultA 0 0)) := heap_alloc2_new _ _ _
  have HBA : Hid (Below w.heap.size w ((w.alloc (.cells (tabA 0 0 zeroL) 30)).alloc (.cells (faultA 0 0) 33))) := ((Below.refl _ _).alloc (Nat.le_refl _) _).alloc (by simp) _
  have hi : (65536 : Int) < s.size := by omega
  clear h
  go_enter Tryd.func10, Tryd.ntmps10
  go_upto_region 1 with (fail)
  simp only [zeros26, faultA] at HR0 HR1 HBA
  generalize World.alloc (World.alloc w _) _ = wA at HR0 HR1 HBA ⊢
  have HS := Lib.hid (size_rtabA 0 0 zeroL rfl)
  have HSF := Lib.hid (size_fault 0 18)
  have HB1 : Hid (Tryd.prog.built 30 [] = some (tabA 0 0 zeroL)) := by show _ = _; kernel_rfl
  have HB2 : Hid (Tryd.prog.built 33 [(1, .int .i64 18)] = some (faultA 0 18)) := by show _ = _; kernel_rfl
  go_wp2_with (first
    | (refine wpList_build_at rfl 30 #[] rfl (tabA 0 0 zeroL) HB1.out ?_)
    | (refine wpList_build_at rfl 33 #[(1, Operand.const (.int .i64 18))] rfl (faultA 0 18) HB2.out ?_)
    | (refine wpList_store_row rfl 30 (Operand.tmp 2) (Operand.tmp 13) rfl w.heap.size (tabA 0 0 zeroL) rfl rfl 30 _ HR0.out HS.out (by rfl) (tabA_one _ _ _) ?_)
    | (refine wpList_store_row rfl 33 (Operand.tmp 3) (Operand.tmp 14) rfl (w.heap.size + 1) (faultA 0 18) rfl rfl 33 _ (HR1.out.otherRow (by omega) _) HSF.out rfl (faultA_one _ _) ?_))
  rw [HP.out]
  refine bodyPost_ret (v := .tuple #[.agg (tabA 0 0 zeroL), .agg (faultA 0 18)]) (results_two_rows rfl _ _ w.heap.size (w.heap.size + 1) 30 33 (tabA 0 0 zeroL) (faultA 0 18) _ _ rfl ((HR0.out.setRow _).otherRow (by omega) _) Tryd.underlying30 rfl HS.out rfl ((HR1.out.otherRow (by omega) _).setRow _) Tryd.underlying33 rfl HSF.out) rfl ⟨rfl, ?_⟩
  exact HBA.out.trans ((setRow_below (Nat.le_refl _) _).trans (setRow_below (Nat.le_succ _) _))

theorem numV_lt (bs : List UInt8) (v c : Nat) (h : numV bs = some (v, c)) : c < bs.length := by
  rw [numV] at h
  split at h
  · cases h
  · rename_i hc
    have e : (scan 10 0 bs).2 = c := congrArg (fun q : Option (Nat × Nat) => (q.getD (0, 0)).2) h
    rw [e] at hc
    have : bs[c]? = some 10 := Classical.byContradiction fun hn => hc (.inr (.inr (.inr hn)))
    exact (List.getElem?_eq_some_iff.1 this).1
/-- What holds at the head of a round. -/
def RParI (s : ByteArray) (w0 : World) (k a : Nat) (W : World) : Prop :=
  ∃ vs, vs.length = k ∧ parseV s.data.toList = comb vs (runV (26 - k) a (s.data.toList.drop a)) ∧ RowAt W (w0.heap.size + 2) 30 (rowA (pad vs)) ∧ RowAt W w0.heap.size 30 (tabA 0 0 zeroL) ∧ RowAt W (w0.heap.size + 1) 33 (faultA 0 0) ∧ Below w0.heap.size w0 W

set_option maxRecDepth 100000 in
set_option maxHeartbeats 4000000 in
theorem rparse_short (s : ByteArray) (w : World) (hs : s.size ≤ 65536) : Calls Tryd.prog 10 #[.string s] w fun e w' => e = pEnd (pOut s) ∧ Below w.heap.size w w' := by
  have HI : Hid (RParI s w 0 0 (((w.alloc (.cells (tabA 0 0 zeroL) 30)).alloc (.cells (faultA 0 0) 33)).alloc (.cells (tabA 0 0 zeroL) 30))) := by
    refine ⟨[], rfl, by rw [comb_nil]; rfl, ?_, (RowAt.alloc (heap_alloc2_old _ _ _) _), (RowAt.alloc (heap_alloc2_new _ _ _) _), (((Below.refl _ _).alloc (Nat.le_refl _) _).alloc (by simp) _).alloc (by simp; omega) _⟩
    have := RowAt.new ((w.alloc (.cells (tabA 0 0 zeroL) 30)).alloc (.cells (faultA 0 0) 33)) 30 (tabA 0 0 zeroL)
    rw [show ((w.alloc (.cells (tabA 0 0 zeroL) 30)).alloc (.cells (faultA 0 0) 33)).heap.size = w.heap.size + 2 from by simp] at this
    exact this
  have HSZ := Lib.hid hs
  have hi : ¬ (65536 : Int) < s.size := by omega
  clear hs
  go_enter Tryd.func10, Tryd.ntmps10
  go_upto_region 4 with (fail)
  simp only [zeros26, faultA] at HI
  generalize World.alloc (World.alloc (World.alloc w _) _) _ = wA at HI ⊢
  go_wp2
  go_loopw [5, 6] (fun p i wr => ∃ k a : Nat, k ≤ 26 ∧ i = .int .i64 k ∧ p = .int .i64 a ∧ a ≤ s.size ∧ RParI s w k a wr) (fun _ i _ => 26 - (intOf i).toNat)
  case atStart => exact ⟨0, 0, by omega, rfl, rfl, by omega, HI.out⟩
  case round =>
    obtain ⟨k, a, hk, rfl, rfl, ha, vs, h1, h2, h3, h4, h5, h6⟩ := hrel
    have HV := Lib.hid h1
    have HP := Lib.hid h2
    have H3 := Lib.hid h3
    have H4 := Lib.hid h4
    have H5 := Lib.hid h5
    have H6 := Lib.hid h6
    have HL2 := Lib.hid h3.lt
    clear h1 h2 h3 h4 h5 h6 HI
    by_cases hlt : k < 26
    · have hle := lbl_le k
      have n1 : ¬ 9223372036854775807 < (lbl k).size + 1 := by omega
      have HLB := Lib.hid (rlabel_any k wr hlt)
      have HLT := Lib.hid hlt
      go_upto_region 8 with (fail)
      go_upto_region 9 with (go_at_call 28; refine HLB.out.mono ?_; rintro e w1 ⟨rfl, hb⟩)
      have H3 := Lib.hid (H3.out.below hb HL2.out)
      have H4 := Lib.hid (H4.out.below hb (by have := HL2.out; omega))
      have H5 := Lib.hid (H5.out.below hb (by have := HL2.out; omega))
      have H6 := Lib.hid (H6.out.trans (hb.mono (by have := HL2.out; omega)))
      have hLD : (lbl k ++ ⟨#[32]⟩ : ByteArray).data.toList = lblB k ++ [32] := by simp [lbl, ByteArray.data_append]
      clear hb HLB HL2 n1 hle
      generalize (lbl k ++ ⟨#[32]⟩ : ByteArray) = L at hLD ⊢
      have hLs : L.size = (lblB k ++ [32]).length := by rw [← hLD]; rfl
      have hL11 : L.size ≤ 11 := by have := lblB_len k; rw [hLs]; simp; omega
      have hdl : (s.data.toList.drop a).length = s.size - a := by rw [List.length_drop]; rfl
      have hda : s.data.toList.length = s.size := rfl
      have hL0 : 0 < L.size := by rw [hLs]; simp
      by_cases hA : s.size < a + L.size
      · have HPO : Hid (pOut s = ⟨0, 0, zeroL, a, 36⟩) := by
          refine pOut_bad HSZ.out ?_
          rw [HP.out, runV_none hlt]; rfl
          rw [lineVL, if_neg]
          intro hp
          have := (List.isPrefixOf_iff_prefix.1 hp).length_le
          omega
        have hc : (s.size : Int) - a < L.size := by omega
        clear hdl hda hA hLs hLD
        have HB1 : Hid (Tryd.prog.built 30 [] = some (tabA 0 0 zeroL)) := by show _ = _; kernel_rfl
        have HB2 : Hid (Tryd.prog.built 33 [(0, .int .i64 (a : Int)), (1, .int .i64 36)] = some (faultA a 36)) := by show _ = _; kernel_rfl
        have HS := Lib.hid (size_rtabA 0 0 zeroL rfl)
        have HSF := Lib.hid (size_fault a 36)
        go_wp2_with (first
          | (refine wpList_build_at rfl 30 #[] rfl (tabA 0 0 zeroL) HB1.out ?_)
          | (refine wpList_build_at rfl 33 #[(0, Operand.tmp 41), (1, Operand.const (.int .i64 36))] rfl (faultA a 36) HB2.out ?_)
          | (refine wpList_store_row rfl 30 (Operand.tmp 2) (Operand.tmp 40) rfl w.heap.size (tabA 0 0 zeroL) rfl rfl 30 _ H4.out HS.out (by rfl) (tabA_one _ _ _) ?_)
          | (refine wpList_store_row rfl 33 (Operand.tmp 3) (Operand.tmp 42) rfl (w.heap.size + 1) (faultA a 36) rfl rfl 33 _ (H5.out.otherRow (by omega) _) HSF.out rfl (faultA_one _ _) ?_))
        rw [HPO.out]
        refine bodyPost_ret (v := .tuple #[.agg (tabA 0 0 zeroL), .agg (faultA a 36)]) (results_two_rows rfl _ _ w.heap.size (w.heap.size + 1) 30 33 (tabA 0 0 zeroL) (faultA a 36) _ _ rfl ((H4.out.setRow _).otherRow (by omega) _) Tryd.underlying30 rfl HS.out rfl ((H5.out.otherRow (by omega) _).setRow _) Tryd.underlying33 rfl HSF.out) rfl ⟨rfl, ?_⟩
        exact H6.out.trans ((setRow_below (Nat.le_refl _) _).trans (setRow_below (Nat.le_succ _) _))
      · by_cases hB : s.extract a (a + L.size) = L
        · have hpre : (lblB k ++ [32]).isPrefixOf (s.data.toList.drop a) = true := by
            rw [← hLD]
            refine List.isPrefixOf_iff_prefix.2 (List.prefix_iff_eq_take.2 ?_)
            have := congrArg (fun x : ByteArray => x.data.toList) hB
            simp only [ByteArray.data_extract, Array.toList_extract, List.extract_eq_take_drop, show a + L.size - a = L.size from by omega] at this
            exact this.symm
          have hdd : (s.data.toList.drop a).drop (lblB k ++ [32]).length = s.data.toList.drop (a + L.size) := by rw [List.drop_drop, ← hLs]
          have hlv : lineVL (lblB k ++ [32]) (s.data.toList.drop a) = (numV (s.data.toList.drop (a + L.size))).map (fun q => (q.1, L.size + q.2 + 1)) := by rw [lineVL, if_pos hpre, hdd, ← hLs]
          have hnum := rnum_any s (a + L.size) (by omega) HSZ.out w1
          have ecast : ((a + L.size : Nat) : Int) = (a : Int) + (L.size : Int) := by omega
          rw [ecast] at hnum
          have hc : ¬ (s.size : Int) - a < L.size := by omega
          have hq := seq_yes (a := s.extract a (a + L.size)) (b := L) hB.symm
          have hd1 : (0 : Int) ≤ a := by omega
          have hd2 : (a : Int) + L.size ≤ s.size := by omega
          have hd3 : ((a : Int) + L.size).toNat = a + L.size := by omega
          have hd4 : (L.size : Int) ≤ 11 := by omega
          cases hn : numV (s.data.toList.drop (a + L.size)) with
          | none =>
            rw [hn] at hlv hnum
            have HPO : Hid (pOut s = ⟨0, 0, zeroL, a, 36⟩) := by
              refine pOut_bad HSZ.out ?_
              rw [HP.out, runV_none hlt hlv]; rfl
            have HNUM : Hid (Calls Tryd.prog 29 #[.string s, .int .i64 ((a : Int) + (L.size : Int))] w1 fun e w' => e = .returned (.tuple #[.int .i64 0, .int .i64 (-1)]) ∧ w1 = w') := hnum
            clear hdl hda hA hLs hLD hB hpre hdd hlv hnum ecast hn
            have HB1 : Hid (Tryd.prog.built 30 [] = some (tabA 0 0 zeroL)) := by show _ = _; kernel_rfl
            have HB2 : Hid (Tryd.prog.built 33 [(0, .int .i64 (a : Int)), (1, .int .i64 36)] = some (faultA a 36)) := by show _ = _; kernel_rfl
            have HS := Lib.hid (size_rtabA 0 0 zeroL rfl)
            have HSF := Lib.hid (size_fault a 36)
            go_wp2_with (first
              | (go_at_call 29; refine HNUM.out.mono ?_; rintro e w' ⟨rfl, rfl⟩)
              | (refine wpList_build_at rfl 30 #[] rfl (tabA 0 0 zeroL) HB1.out ?_)
              | (refine wpList_build_at rfl 33 #[(0, Operand.tmp 55), (1, Operand.const (.int .i64 36))] rfl (faultA a 36) HB2.out ?_)
              | (refine wpList_store_row rfl 30 (Operand.tmp 2) (Operand.tmp 54) rfl w.heap.size (tabA 0 0 zeroL) rfl rfl 30 _ H4.out HS.out (by rfl) (tabA_one _ _ _) ?_)
              | (refine wpList_store_row rfl 33 (Operand.tmp 3) (Operand.tmp 56) rfl (w.heap.size + 1) (faultA a 36) rfl rfl 33 _ (H5.out.otherRow (by omega) _) HSF.out rfl (faultA_one _ _) ?_))
            rw [HPO.out]
            refine bodyPost_ret (v := .tuple #[.agg (tabA 0 0 zeroL), .agg (faultA a 36)]) (results_two_rows rfl _ _ w.heap.size (w.heap.size + 1) 30 33 (tabA 0 0 zeroL) (faultA a 36) _ _ rfl ((H4.out.setRow _).otherRow (by omega) _) Tryd.underlying30 rfl HS.out rfl ((H5.out.otherRow (by omega) _).setRow _) Tryd.underlying33 rfl HSF.out) rfl ⟨rfl, ?_⟩
            exact H6.out.trans ((setRow_below (Nat.le_refl _) _).trans (setRow_below (Nat.le_succ _) _))
          | some q =>
            obtain ⟨v, c⟩ := q
            have hclt := numV_lt _ _ _ hn
            rw [List.length_drop] at hclt
            have hpl : L.size + c + 1 = (L.size + c + 1) := rfl
            rw [hn] at hlv hnum
            have HNUM : Hid (Calls Tryd.prog 29 #[.string s, .int .i64 ((a : Int) + (L.size : Int))] w1 fun e w' => e = .returned (.tuple #[.int .i64 (v : Int), .int .i64 ((a : Int) + L.size + c)]) ∧ w1 = w') := by
              show Calls _ _ _ _ _
              have e2 : ((a + L.size + c : Nat) : Int) = (a : Int) + L.size + c := by omega
              rw [← e2]; exact hnum
            have HLEN : Hid (a + L.size + c + 1 ≤ s.size) := by show _ ≤ _; omega
            have HRN : Hid (parseV s.data.toList = comb (vs ++ [v]) (runV (26 - (k + 1)) (a + L.size + c + 1) (s.data.toList.drop (a + L.size + c + 1)))) := by
              show _ = _
              have := runV_some (k := k) (a := a) hlt (by rw [hlv]; rfl)
              rw [HP.out, this, comb_comb, List.drop_drop]
              rw [show a + (L.size + c + 1) = a + L.size + c + 1 from by omega]
            have hps : (pad vs).set k (v : Int) = pad (vs ++ [v]) := by rw [← HV.out]; exact pad_set vs v (by have := HV.out; omega)
            have HST : Hid (RowAt (w1.setCell ⟨w.heap.size + 1 + 1, k, none⟩ (.int .i64 (v : Int))) (w.heap.size + 2) 30 (rowA (pad (vs ++ [v])))) := by
              show RowAt _ _ _ _
              rw [← hps, ← rowA_set]; exact H3.out.set _ _
            have hcell : w1.cell? ⟨w.heap.size + 1 + 1, k, none⟩ = some (.int .i64 ((pad vs).getD k 0)) := row_cell H3.out k (by rw [pad_len vs (by have := HV.out; omega)]; exact hlt)
            have hfz : w1.frozen? ⟨w.heap.size + 1 + 1, k, none⟩ = false := H3.out.frozen k
            have he0 : (0 : Int) ≤ (a : Int) + L.size + c := by omega
            have he1 : (a : Int) + L.size + c + 1 ≤ s.size := by have := HLEN.out; omega
            clear hdl hda hA hLs hLD hB hpre hdd hlv hnum ecast hn hps hpl hclt
            by_cases k0 : k = 0
            · subst k0
              go_wp2_with (go_at_call 29; refine HNUM.out.mono ?_; rintro e w' ⟨rfl, rfl⟩)
              go_roundw
              case rel => exact ⟨_, a + L.size + c + 1, HLT.out, by go_num, by go_num, HLEN.out, vs ++ [v], by simp [HV.out], HRN.out, HST.out, H4.out.other (by omega) _ _, H5.out.other (by omega) _ _, H6.out.setCell (by simp; omega) _⟩
              case measure => simp [intOf]
            by_cases k1 : k = 1
            · subst k1
              go_wp2_with (go_at_call 29; refine HNUM.out.mono ?_; rintro e w' ⟨rfl, rfl⟩)
              go_roundw
              case rel => exact ⟨_, a + L.size + c + 1, HLT.out, by go_num, by go_num, HLEN.out, vs ++ [v], by simp [HV.out], HRN.out, HST.out, H4.out.other (by omega) _ _, H5.out.other (by omega) _ _, H6.out.setCell (by simp; omega) _⟩
              case measure => simp [intOf]
            obtain ⟨j, rfl⟩ : ∃ j, k = j + 2 := ⟨k - 2, by omega⟩
            have d0 : (((j + 2 : Nat) : Int) == 0) = false := beq_eq_false_iff_ne.2 (by omega)
            have d1 : (((j + 2 : Nat) : Int) == 1) = false := beq_eq_false_iff_ne.2 (by omega)
            have e2 : ((j + 2 : Nat) : Int) - 2 = (j : Int) := by omega
            have hj0 : (0 : Int) ≤ j := by omega
            have hj1 : (j : Int) < 24 := by omega
            rw [Nat.add_comm j 2] at hcell hfz HST
            clear k0 k1
            go_wp2_with (go_at_call 29; refine HNUM.out.mono ?_; rintro e w' ⟨rfl, rfl⟩)
            go_roundw
            case rel => exact ⟨_, a + L.size + c + 1, HLT.out, by go_num, by go_num, HLEN.out, vs ++ [v], by simp [HV.out], HRN.out, HST.out, H4.out.other (by omega) _ _, H5.out.other (by omega) _ _, H6.out.setCell (by simp; omega) _⟩
            case measure => simp [intOf]; omega
        · have HPO : Hid (pOut s = ⟨0, 0, zeroL, a, 36⟩) := by
            refine pOut_bad HSZ.out ?_
            rw [HP.out, runV_none hlt]; rfl
            rw [lineVL, if_neg]
            intro hp
            refine hB (ByteArray.ext (Array.toList_inj.1 ?_))
            rw [← hLD] at hp
            have := List.prefix_iff_eq_take.1 (List.isPrefixOf_iff_prefix.1 hp)
            rw [ByteArray.data_extract, Array.toList_extract, List.extract_eq_take_drop, show a + L.size - a = L.size from by omega]
            exact this.symm
          have hc : ¬ (s.size : Int) - a < L.size := by omega
          have hq := seq_no (a := s.extract a (a + L.size)) (b := L) (fun e => hB e.symm)
          have hd1 : (0 : Int) ≤ a := by omega
          have hd2 : (a : Int) + L.size ≤ s.size := by omega
          have hd3 : ((a : Int) + L.size).toNat = a + L.size := by omega
          have hd4 : (L.size : Int) ≤ 11 := by omega
          clear hdl hda hA hLs hLD hB
          have HB1 : Hid (Tryd.prog.built 30 [] = some (tabA 0 0 zeroL)) := by show _ = _; kernel_rfl
          have HB2 : Hid (Tryd.prog.built 33 [(0, .int .i64 (a : Int)), (1, .int .i64 36)] = some (faultA a 36)) := by show _ = _; kernel_rfl
          have HS := Lib.hid (size_rtabA 0 0 zeroL rfl)
          have HSF := Lib.hid (size_fault a 36)
          go_wp2_with (first
            | (refine wpList_build_at rfl 30 #[] rfl (tabA 0 0 zeroL) HB1.out ?_)
            | (refine wpList_build_at rfl 33 #[(0, Operand.tmp 41), (1, Operand.const (.int .i64 36))] rfl (faultA a 36) HB2.out ?_)
            | (refine wpList_store_row rfl 30 (Operand.tmp 2) (Operand.tmp 40) rfl w.heap.size (tabA 0 0 zeroL) rfl rfl 30 _ H4.out HS.out (by rfl) (tabA_one _ _ _) ?_)
            | (refine wpList_store_row rfl 33 (Operand.tmp 3) (Operand.tmp 42) rfl (w.heap.size + 1) (faultA a 36) rfl rfl 33 _ (H5.out.otherRow (by omega) _) HSF.out rfl (faultA_one _ _) ?_))
          rw [HPO.out]
          refine bodyPost_ret (v := .tuple #[.agg (tabA 0 0 zeroL), .agg (faultA a 36)]) (results_two_rows rfl _ _ w.heap.size (w.heap.size + 1) 30 33 (tabA 0 0 zeroL) (faultA a 36) _ _ rfl ((H4.out.setRow _).otherRow (by omega) _) Tryd.underlying30 rfl HS.out rfl ((H5.out.otherRow (by omega) _).setRow _) Tryd.underlying33 rfl HSF.out) rfl ⟨rfl, ?_⟩
          exact H6.out.trans ((setRow_below (Nat.le_refl _) _).trans (setRow_below (Nat.le_succ _) _))
    · obtain rfl : k = 26 := by omega
      have hp := HP.out
      rw [show 26 - 26 = 0 from rfl, runV] at hp
      have hll : s.data.toList.length = s.size := rfl
      by_cases haS : a < s.size
      · have HPO : Hid (pOut s = ⟨0, 0, zeroL, a, 36⟩) := by
          refine pOut_bad HSZ.out ?_
          rw [hp, if_neg]; rfl
          intro e; have := congrArg List.length e; rw [List.length_drop] at this; simp at this; omega
        have hlt2 : (a : Int) < s.size := by omega
        clear hp hll haS
        have HB1 : Hid (Tryd.prog.built 30 [] = some (tabA 0 0 zeroL)) := by show _ = _; kernel_rfl
        have HB2 : Hid (Tryd.prog.built 33 [(0, .int .i64 (a : Int)), (1, .int .i64 36)] = some (faultA a 36)) := by show _ = _; kernel_rfl
        have HS := Lib.hid (size_rtabA 0 0 zeroL rfl)
        have HSF := Lib.hid (size_fault a 36)
        go_wp2_with (first
          | (refine wpList_build_at rfl 30 #[] rfl (tabA 0 0 zeroL) HB1.out ?_)
          | (refine wpList_build_at rfl 33 #[(0, Operand.tmp 78), (1, Operand.const (.int .i64 36))] rfl (faultA a 36) HB2.out ?_)
          | (refine wpList_store_row rfl 30 (Operand.tmp 2) (Operand.tmp 77) rfl w.heap.size (tabA 0 0 zeroL) rfl rfl 30 _ H4.out HS.out (by rfl) (tabA_one _ _ _) ?_)
          | (refine wpList_store_row rfl 33 (Operand.tmp 3) (Operand.tmp 79) rfl (w.heap.size + 1) (faultA a 36) rfl rfl 33 _ (H5.out.otherRow (by omega) _) HSF.out rfl (faultA_one _ _) ?_))
        rw [HPO.out]
        refine bodyPost_ret (v := .tuple #[.agg (tabA 0 0 zeroL), .agg (faultA a 36)]) (results_two_rows rfl _ _ w.heap.size (w.heap.size + 1) 30 33 (tabA 0 0 zeroL) (faultA a 36) _ _ rfl ((H4.out.setRow _).otherRow (by omega) _) Tryd.underlying30 rfl HS.out rfl ((H5.out.otherRow (by omega) _).setRow _) Tryd.underlying33 rfl HSF.out) rfl ⟨rfl, ?_⟩
        exact H6.out.trans ((setRow_below (Nat.le_refl _) _).trans (setRow_below (Nat.le_succ _) _))
      · have hpv : parseV s.data.toList = .inr vs := by
          rw [hp, if_pos (List.drop_eq_nil_of_le (by omega))]
          show Sum.inr (vs ++ []) = _
          rw [List.append_nil]
        have hv26 := HV.out
        obtain ⟨x, y, l, hxy⟩ : ∃ x y l, vs.map Int.ofNat = x :: y :: l := by
          match vs, hv26 with
          | p :: q :: r, _ => exact ⟨_, _, _, rfl⟩
        have HL : Hid (l.length = 24) := by show _ = _; have := congrArg List.length hxy; simp [hv26] at this; omega
        have h3 := H3.out
        rw [pad_full vs hv26, hxy] at h3
        have H3 : Hid (RowAt wr (w.heap.size + 2) 30 (tabA x y l)) := h3
        have HSX := Lib.hid (size_rtabA x y l HL.out)
        have hlt2 : (s.size : Int) ≤ a := by omega
        by_cases hok : okT x y l
        · have HPO := Lib.hid (pOut_ok HSZ.out hpv hxy hok)
          have HC := Lib.hid (refcheck_ok x y l HL.out wr hok)
          clear hp hll haS hpv hv26 hxy h3 hok
          go_wp2_with (first
            | (refine wpList_load_row rfl 30 (Operand.tmp 4) rfl (w.heap.size + 2) rfl 30 (tabA x y l) (0, 0) _ H3.out Tryd.underlying30 rfl HSX.out ?_)
            | (go_at_call 22; refine HC.out.mono ?_))
          rintro e w1 ⟨rfl, hb⟩
          have H3 := Lib.hid (H3.out.below hb HL2.out)
          have H4 := Lib.hid (H4.out.below hb (by have := HL2.out; omega))
          have H5 := Lib.hid (H5.out.below hb (by have := HL2.out; omega))
          have H6 := Lib.hid (H6.out.trans (hb.mono (by have := HL2.out; omega)))
          have HST := HSX
          have HO : Hid ((tabA 0 0 zeroL).size = (tabA x y l).size) := by show (tabA 0 0 zeroL).size = (tabA x y l).size; rw [tabA_size, tabA_size, HL.out]; rfl
          clear hb
          have HB2 : Hid (Tryd.prog.built 33 [] = some (faultA 0 0)) := by show _ = _; kernel_rfl
          have HB1 : Hid (Tryd.prog.built 30 [] = some (tabA 0 0 zeroL)) := by show _ = _; kernel_rfl
          have HSF : Hid ((Tryd.prog.info? 33).map (·.size) = some (faultA 0 0).size) := size_fault _ _
          go_wp2_with (first
            | (refine wpList_load_row rfl 30 (Operand.tmp 4) rfl (w.heap.size + 2) rfl 30 (tabA x y l) (0, 0) _ H3.out Tryd.underlying30 rfl HSX.out ?_)
            | (refine wpList_build_at rfl 30 #[] rfl (tabA 0 0 zeroL) HB1.out ?_)
            | (refine wpList_build_at rfl 33 #[] rfl (faultA 0 0) HB2.out ?_)
            | (refine wpList_store_row rfl 30 (Operand.tmp 2) (Operand.tmp 85) rfl w.heap.size (tabA x y l) rfl rfl 30 _ H4.out HST.out HO.out (tabA_one _ _ _) ?_)
            | (refine wpList_store_row rfl 33 (Operand.tmp 3) (Operand.tmp 86) rfl (w.heap.size + 1) (faultA 0 0) rfl rfl 33 _ (H5.out.otherRow (by omega) _) HSF.out rfl (faultA_one _ _) ?_))
          rw [HPO.out]
          refine bodyPost_ret (v := .tuple #[.agg (tabA x y l), .agg (faultA 0 0)]) (results_two_rows rfl _ _ w.heap.size (w.heap.size + 1) 30 33 (tabA x y l) (faultA 0 0) _ _ rfl ((H4.out.setRow _).otherRow (by omega) _) Tryd.underlying30 rfl HST.out rfl ((H5.out.otherRow (by omega) _).setRow _) Tryd.underlying33 rfl HSF.out) rfl ⟨rfl, ?_⟩
          exact H6.out.trans ((setRow_below (Nat.le_refl _) _).trans (setRow_below (Nat.le_succ _) _))
        · have HPO := Lib.hid (pOut_range HSZ.out hpv hxy hok)
          have HC := Lib.hid (refcheck_no x y l HL.out wr hok)
          clear hp hll haS hpv hv26 hxy h3 hok
          go_wp2_with (first
            | (refine wpList_load_row rfl 30 (Operand.tmp 4) rfl (w.heap.size + 2) rfl 30 (tabA x y l) (0, 0) _ H3.out Tryd.underlying30 rfl HSX.out ?_)
            | (go_at_call 22; refine HC.out.mono ?_))
          rintro e w1 ⟨rfl, hb⟩
          have H3 := Lib.hid (H3.out.below hb HL2.out)
          have H4 := Lib.hid (H4.out.below hb (by have := HL2.out; omega))
          have H5 := Lib.hid (H5.out.below hb (by have := HL2.out; omega))
          have H6 := Lib.hid (H6.out.trans (hb.mono (by have := HL2.out; omega)))
          have HST := Lib.hid (size_rtabA 0 0 zeroL rfl)
          clear hb
          have HB2 : Hid (Tryd.prog.built 33 [(1, .int .i64 34)] = some (faultA 0 34)) := by show _ = _; kernel_rfl
          have HB1 : Hid (Tryd.prog.built 30 [] = some (tabA 0 0 zeroL)) := by show _ = _; kernel_rfl
          have HSF : Hid ((Tryd.prog.info? 33).map (·.size) = some (faultA 0 34).size) := size_fault _ _
          go_wp2_with (first
            | (refine wpList_load_row rfl 30 (Operand.tmp 4) rfl (w.heap.size + 2) rfl 30 (tabA x y l) (0, 0) _ H3.out Tryd.underlying30 rfl HSX.out ?_)
            | (refine wpList_build_at rfl 30 #[] rfl (tabA 0 0 zeroL) HB1.out ?_)
            | (refine wpList_build_at rfl 33 #[(1, Operand.const (.int .i64 34))] rfl (faultA 0 34) HB2.out ?_)
            | (refine wpList_store_row rfl 30 (Operand.tmp 2) (Operand.tmp 83) rfl w.heap.size (tabA 0 0 zeroL) rfl rfl 30 _ H4.out HST.out (by rfl) (tabA_one _ _ _) ?_)
            | (refine wpList_store_row rfl 33 (Operand.tmp 3) (Operand.tmp 84) rfl (w.heap.size + 1) (faultA 0 34) rfl rfl 33 _ (H5.out.otherRow (by omega) _) HSF.out rfl (faultA_one _ _) ?_))
          rw [HPO.out]
          refine bodyPost_ret (v := .tuple #[.agg (tabA 0 0 zeroL), .agg (faultA 0 34)]) (results_two_rows rfl _ _ w.heap.size (w.heap.size + 1) 30 33 (tabA 0 0 zeroL) (faultA 0 34) _ _ rfl ((H4.out.setRow _).otherRow (by omega) _) Tryd.underlying30 rfl HST.out rfl ((H5.out.otherRow (by omega) _).setRow _) Tryd.underlying33 rfl HSF.out) rfl ⟨rfl, ?_⟩
          exact H6.out.trans ((setRow_below (Nat.le_refl _) _).trans (setRow_below (Nat.le_succ _) _))

theorem rparse_any (s : ByteArray) (w : World) : Calls Tryd.prog 10 #[.string s] w fun e w' => e = pEnd (pOut s) ∧ Below w.heap.size w w' := by
  by_cases h : 65536 < s.size
  · exact rparse_long s w h
  · exact rparse_short s w (by omega)
end Go.Proofs.YtnnmmkimdknbgaaDoor
