/- The walk of the law CostsTexts. -/
import Derived.Test.YtnnmmkimdknbgaaDoorTr
namespace Go.Proofs.YtnnmmkimdknbgaaDoor
open Go.RowKit
set_option linter.unusedVariables false

theorem texts_skip (s c : Int) (l : List Int) (hl : l.length = 24) (b : ByteArray) (w : World) (h1 : 1000 < b.size) (h2 : b.size ≤ 65536) :
    Calls Tryd.prog 3 #[.agg (tabA s c l), .string b] w fun e w' => e = .returned (.bool true) ∧ Below w.heap.size w w' := by
  have HT := Lib.hid (TabAt.box w s c l 24)
  have i1 : (1000 : Int) < b.size := by omega
  have i2 : (b.size : Int) ≤ 65536 := by omega
  clear h1 h2 hl
  go_enter Tryd.func3, Tryd.ntmps3
  go_upto_region 1 with (fail)
  generalize w.alloc _ = wA at HT ⊢
  go_wp2_with (go_at_call 5; refine (awake_any _).mono ?_; rintro e w1 ⟨rfl, hb1⟩)
  go_ret
  exact ⟨rfl, (HT.out.call (by assumption)).below⟩

theorem RowAt.range {W : World} {B : Nat} {t : TypeId} {cs : Array Value} (h : RowAt W B t cs) : W.rangeAt B 0 cs.toList := fun j v hv => by
  rw [Nat.zero_add, h.cell j]; simpa using hv
theorem two_rows (w : World) (t t2 : TypeId) (cs0 fs0 cs fs : Array Value) {W : World} (e : (((w.alloc (.cells cs0 t)).alloc (.cells fs0 t2)).setRow w.heap.size cs).setRow (w.heap.size + 1) fs = W) :
    RowAt W w.heap.size t cs ∧ RowAt W (w.heap.size + 1) t2 fs ∧ Below w.heap.size w W ∧ W.heap.size = w.heap.size + 2 := by
  subst e
  have r0 : RowAt ((w.alloc (.cells cs0 t)).alloc (.cells fs0 t2)) w.heap.size t cs0 := (RowAt.new w t cs0).alloc _
  have r1 : RowAt ((w.alloc (.cells cs0 t)).alloc (.cells fs0 t2)) (w.heap.size + 1) t2 fs0 := heap_alloc2_new _ _ _
  refine ⟨(r0.setRow cs).otherRow (by omega) _, (r1.otherRow (by omega) _).setRow fs, ?_, by simp⟩
  exact (((Below.refl _ w).alloc (Nat.le_refl _) _).alloc (by simp) _).trans ((setRow_below (Nat.le_refl _) _).trans (setRow_below (Nat.le_succ _) _))
theorem RowAt.regrown {W V : World} {B : Nat} {t : TypeId} {cs : Array Value} (h : RowAt W B t cs) (hV : ∃ p : Regrown, V = Sort.grow (redrawn W p.d) p.os) : V.rangeAt B 0 cs.toList := fun j x hx => by
  obtain ⟨p, hp⟩ := hV
  rw [hp]; exact cell_regrown (h.range j x hx) _ _

theorem eql_fault (a c : Int) (w : World) : (binOp .eql 33 (.agg (faultA a c)) (.agg (faultA a c))).run Tryd.prog w = .ok (.bool true) w := by
  have h := run_eql_struct (P := Tryd.prog) w 33 (faultA a c) (faultA a c)
  rw [run_equalIn_struct w 9999 33 _ _ (by kernel_rfl) (by kernel_rfl)] at h
  rw [h]
  have e : (Tryd.prog.fieldsOf 33).toList.map (fun f => (f.type, f.offset, f.name != "_")) = [(3, 0, true), (26, 1, true)] := by kernel_rfl
  have hl2 : (Tryd.prog.fieldsOf 33).toList.length = 2 := by simpa using congrArg List.length e
  generalize (Tryd.prog.fieldsOf 33).toList = fs at e hl2
  match fs, hl2, e with
  | [f0, f1], _, e =>
    simp only [List.map_cons, List.map_nil, List.cons.injEq, Prod.mk.injEq, bne_iff_ne, ne_eq, and_true] at e
    obtain ⟨⟨a0, a1, a2⟩, b0, b1, b2⟩ := e
    have p0 : ∀ w, (part 3 (faultA a c) 0).run Tryd.prog w = .ok (.int .i64 a) w := fun w => by simp [part, isAgg, run_underlying Tryd.underlying3, faultA]
    have p1 : ∀ w, (part 26 (faultA a c) 1).run Tryd.prog w = .ok (.int .i64 c) w := fun w => by simp [part, isAgg, run_underlying Tryd.underlying26, faultA]
    simp [Op.eqFields, a0, a1, a2, b0, b1, b2, p0, p1, run_equalIn_int w 9998 3 .i64 .i64 _ _ Tryd.underlying3, run_equalIn_int w 9998 26 .i64 .i64 _ _ Tryd.underlying26]

theorem globalNamed_p10 : Tryd.prog.globalNamed "internal/strconv.uint64pow10" = some 1 := by kernel_rfl
def P10 (w : World) : Prop := Lib.TabIs Tryd.prog w "internal/strconv.uint64pow10" .u64 Lib.pow10Tab
theorem P10.below {w w' : World} (h : P10 w) (hb : Below w.heap.size w w') : P10 w' := Joins.tab_stays globalNamed_p10 h hb (Nat.le_refl _)

set_option maxHeartbeats 4000000 in
set_option maxRecDepth 100000 in
theorem texts_walk (s c : Int) (l : List Int) (hl : l.length = 24) (b : ByteArray) (w : World) (h : ¬ (1000 < b.size ∧ b.size ≤ 65536)) (hN : NamesAt w) (hP : P10 w) :
    Calls Tryd.prog 3 #[.agg (tabA s c l), .string b] w fun e w' => e = .returned (.bool true) ∧ Below w.heap.size w w' := by
  have HL := Lib.hid hl
  have HT := Lib.hid (TabAt.box w s c l 24)
  have HS := Lib.hid (size_tab s c l hl)
  have HN := Lib.hid hN
  have HP := Lib.hid hP
  have HB0 : Hid (Below w.heap.size w (w.alloc (.cells (tabA s c l) 24))) := (Below.refl _ _).alloc (Nat.le_refl _) _
  obtain ⟨T, E, t1, t2⟩ := text_both s c l hl
  have HT1 := Lib.hid t1
  have HT2 := Lib.hid t2
  have hsk : decide ((1000 : Int) < b.size) = false ∨ (decide ((1000 : Int) < b.size) = true ∧ decide ((b.size : Int) ≤ 65536) = false) := by
    by_cases h1 : 1000 < b.size
    · exact .inr ⟨by simp; omega, by simp; omega⟩
    · exact .inl (by simp; omega)
  have HO := Lib.hid (pOut_len b)
  have HPC : Hid (∀ w, NamesAt w → Calls Tryd.prog 9 #[.string b] w fun e w' => e = .returned (.tuple #[.agg (tabA (pOut b).s (pOut b).c (pOut b).l), .agg (faultA (pOut b).at_ (pOut b).code)]) ∧ Below w.heap.size w w') := fun w hN => parse_any b w hN
  have HPR : Hid (∀ w, Calls Tryd.prog 10 #[.string b] w fun e w' => e = .returned (.tuple #[.agg (tabA (pOut b).s (pOut b).c (pOut b).l), .agg (faultA (pOut b).at_ (pOut b).code)]) ∧ Below w.heap.size w w') := fun w => rparse_any b w
  generalize (pOut b).s = ps at HPC HPR
  generalize (pOut b).c = pc at HPC HPR
  generalize (pOut b).l = pl at HPC HPR HO
  generalize (pOut b).at_ = pa at HPC HPR
  generalize (pOut b).code = pe at HPC HPR
  clear t1 t2 hl h hN hP
  rcases hsk with hk | ⟨hk, hk2⟩
  all_goals
    go_enter Tryd.func3, Tryd.ntmps3
    go_upto_region 1 with (fail)
    generalize w.alloc _ = wA at HT HB0 ⊢
    have HNA := Lib.hid (NamesAt.below HN.out HB0.out)
    have HPA := Lib.hid (P10.below HP.out HB0.out)
    go_upto_region 4 with (first
      | (refine wpList_load_mid rfl 24 (Operand.tmp 2) rfl w.heap.size 0 rfl (tabL s c l) _ HT.out.whole Tryd.underlying24 rfl HS.out ?_)
      | (go_at_call 6; refine (HT1.out _ HNA.out HPA.out).mono ?_; rintro e w1 ⟨rfl, hb1⟩))
    have HTA := Lib.hid (HT.out.call hb1)
    have HNB := Lib.hid (NamesAt.below HNA.out hb1)
    clear hb1
    go_upto_region 5 with (first
      | (refine wpList_load_mid rfl 24 (Operand.tmp 2) rfl w.heap.size 0 rfl (tabL s c l) _ HTA.out.whole Tryd.underlying24 rfl HS.out ?_)
      | (go_at_call 8; refine (from_any s c l HL.out _).mono ?_; rintro e w2 ⟨rfl, hb2⟩)
      | (go_at_call 7; refine (HT2.out _).mono ?_; rintro e w3 ⟨rfl, hb3⟩))
    have HTB := Lib.hid ((HTA.out.call hb2).call hb3)
    have HNC := Lib.hid (NamesAt.below (NamesAt.below HNB.out hb2) hb3)
    clear hb2 hb3
    have HSP := Lib.hid (size_tabA ps pc pl HO.out)
    have HSF := Lib.hid (size_fault pa pe)
    have HSR := Lib.hid (size_rtabA ps pc pl HO.out)
    have HZ : Hid ((tabA 0 0 zeroL).size = (tabA ps pc pl).size) := by show (tabA 0 0 zeroL).size = (tabA ps pc pl).size; rw [tabA_size, tabA_size, HO.out]; rfl
    rw [zeros26] at HZ
    go_upto_region 6 with (first
      | (go_at_call 9; refine (HPC.out _ HNC.out).mono ?_; rintro e w4 ⟨rfl, hb4⟩)
      | (refine wpList_store_row rfl 24 (Operand.tmp 9) (Operand.tmp 36) rfl w4.heap.size (tabA ps pc pl) rfl rfl 24 _ ((RowAt.new w4 _ _).alloc _) HSP.out HZ.out (tabA_one _ _ _) ?_)
      | (refine wpList_store_row rfl 33 (Operand.tmp 10) (Operand.tmp 37) rfl (w4.heap.size + 1) (faultA pa pe) rfl rfl 33 _ (RowAt.otherRow (heap_alloc2_new _ _ _) (by omega) _) HSF.out rfl (faultA_one _ _) ?_))
    simp only [Act.put]
    generalize hW : World.setRow (World.setRow (World.alloc (World.alloc w4 _) _) _ _) _ _ = wB
    obtain ⟨q1, q2, q3, q4⟩ := two_rows w4 _ _ _ _ _ _ hW
    have Q1 := Lib.hid q1
    have Q2 := Lib.hid q2
    have QS := Lib.hid q4
    have HTC := Lib.hid ((HTB.out.call hb4).call q3)
    clear hW q1 q2 q3 q4 hb4
    generalize w4.heap.size = g at Q1 Q2 QS ⊢
    go_upto_region 7 with (first
      | (go_at_call 10; refine (HPR.out _).mono ?_; rintro e w5 ⟨rfl, hb5⟩)
      | (refine wpList_store_row rfl 30 (Operand.tmp 11) (Operand.tmp 41) rfl w5.heap.size (tabA ps pc pl) rfl rfl 30 _ ((RowAt.new w5 _ _).alloc _) HSR.out HZ.out (tabA_one _ _ _) ?_)
      | (refine wpList_store_row rfl 33 (Operand.tmp 12) (Operand.tmp 42) rfl (w5.heap.size + 1) (faultA pa pe) rfl rfl 33 _ (RowAt.otherRow (heap_alloc2_new _ _ _) (by omega) _) HSF.out rfl (faultA_one _ _) ?_))
    simp only [Act.put]
    generalize hW : World.setRow (World.setRow (World.alloc (World.alloc w5 _) _) _ _) _ _ = wD
    obtain ⟨q1, q2, q3, q4⟩ := two_rows w5 _ _ _ _ _ _ hW
    have R1 := Lib.hid q1
    have R2 := Lib.hid q2
    have hwB : g + 2 ≤ w5.heap.size := by have := hb5.size; have := QS.out; omega
    have Q1' := Lib.hid ((Q1.out.below hb5 (by have := QS.out; omega)).below q3 (by omega))
    have Q2' := Lib.hid ((Q2.out.below hb5 (by have := QS.out; omega)).below q3 (by omega))
    have HTD := Lib.hid ((HTC.out.call hb5).call q3)
    clear hW q1 q2 q3 q4 hb5 Q1 Q2 QS hwB
    generalize w5.heap.size = h at R1 R2 ⊢
    have G1 : Hid (∀ v, (∃ p : Regrown, v = Sort.grow (redrawn wD p.d) p.os) → v.rangeAt g 0 (tabA ps pc pl).toList) := fun v hv => Q1'.out.regrown hv
    have G2 : Hid (∀ v, (∃ p : Regrown, v = Sort.grow (redrawn wD p.d) p.os) → v.rangeAt (g + 1) 0 (faultA pa pe).toList) := fun v hv => Q2'.out.regrown hv
    have G3 : Hid (∀ v, (∃ p : Regrown, v = Sort.grow (redrawn wD p.d) p.os) → v.rangeAt h 0 (tabA ps pc pl).toList) := fun v hv => R1.out.regrown hv
    have G4 : Hid (∀ v, (∃ p : Regrown, v = Sort.grow (redrawn wD p.d) p.os) → v.rangeAt (h + 1) 0 (faultA pa pe).toList) := fun v hv => R2.out.regrown hv
    have hsT : (T.toList == T.toList) = true := beq_iff_eq.2 rfl
    have hsE : (E == E) = true := beq_iff_eq.2 rfl
    have hed := eql_rtab ps pc pl HO.out
    have hfa : ∀ w, (binOp .eql 33 (.agg (faultA pa pe)) (.agg (faultA pa pe))).run Tryd.prog w = .ok (.bool true) w := eql_fault pa pe
    refine wp_region_quiet_below (by kernel_rfl) (by kernel_rfl) ?_
    repeat (first
      | (refine BigFrame.wpQuiet_want rfl (fun K hK => ?_)
         first
           | refine quiet_load_mid 24 _ rfl g 0 rfl (tabA ps pc pl).toList _ G1.out Tryd.underlying24 rfl HSP.out ?_
           | refine quiet_load_mid 30 _ rfl h 0 rfl (tabA ps pc pl).toList _ G3.out Tryd.underlying30 rfl HSR.out ?_
           | refine quiet_load_mid 33 _ rfl (g + 1) 0 rfl (faultA pa pe).toList _ G2.out Tryd.underlying33 rfl HSF.out ?_
           | refine quiet_load_mid 33 _ rfl (h + 1) 0 rfl (faultA pa pe).toList _ G4.out Tryd.underlying33 rfl HSF.out ?_
         refine hK _ ?_
         clear hK K)
      | go_big_quiet_skip
      | quiet_step (first
        | (go_at_call 8; exact Calls.regrown_of (from_any _ _ _ HO.out _))
        | (go_at_call 5; exact Calls.regrown_of (awake_any _))))
    refine wpQuiet_nil ?_
    intro _ hw'
    obtain ⟨⟨dq, osq⟩, hw''⟩ := hw'
    subst hw''
    have HB : Hid (Below w.heap.size w (Sort.grow (redrawn wD dq) osq)) := below_call HTD.out.below (below_regrown _ _ _)
    go_wp2
    go_ret
    exact ⟨rfl, HB.out⟩
end Go.Proofs.YtnnmmkimdknbgaaDoor
