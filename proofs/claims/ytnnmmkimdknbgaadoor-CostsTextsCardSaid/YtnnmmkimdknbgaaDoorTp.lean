/- The contract of costs.Parse, of a string that is not too long. -/
import Derived.Test.YtnnmmkimdknbgaaDoorTn
namespace Go.Proofs.YtnnmmkimdknbgaaDoor
open Go.RowKit Go.Shelf
set_option linter.unusedVariables false
attribute [local go_sem] Oper.semAt_some

theorem lines1_stops (n : Nat) (hn : 1 ≤ n) (B : Nat) (s : ByteArray) (hs : s.size ≤ 65536) (w : World) (hB : B < w.heap.size) (hc : w.cell? ⟨B, 0, none⟩ = some (.string s)) :
    SeqStopsK Fence.wide n Tryd.prog 38 #[.pointer (some ⟨B, 0, none⟩)] (encL s) (KpS B s) (fun ys => Chain s.data.toList 0 ys s.size) (fun pre => ∃ e, Chain s.data.toList 0 pre e) s.size w := fun l J Jx W hW _ _ hY h0 =>
  lines1_in n hn l B s hs J Jx hY W ((hW.cell (p := ⟨B, 0, none⟩) hB).trans hc) h0
theorem KpS.b {B : Nat} {s : ByteArray} (W : World) (l : Nat) (o o' : Obj) (h : W.heap[l]? = some o) (ho : o.isCells = false) : KpS B s W (W.putObj l o') := fun e =>
  cell_kept e (grownBy_putObj' W l o') (fun r hr => by cases hr; exact ⟨o, h, ho⟩)
theorem RowAt.nc {X Y : World} {row : Option Nat} {B B0 : Nat} {t : TypeId} {cs : Array Value} (h : RowAt X B t cs) (hg : X.grownBy Y row) (hr : ∀ r, row = some r → B0 ≤ r ∧ ∃ o : Obj, X.heap[r]? = some o ∧ o.isCells = false) : RowAt Y B t cs :=
  h.kept hg (fun e' => by obtain ⟨-, o, ho, hc⟩ := hr B e'.symm; rw [show X.heap[B]? = _ from h] at ho; cases ho; cases hc)

/-- The values that have been read, and zeros. -/
def pad (vs : List Nat) : List Int := vs.map Int.ofNat ++ List.replicate (26 - vs.length) 0
theorem pad_len (vs : List Nat) (h : vs.length ≤ 26) : (pad vs).length = 26 := by simp [pad]; omega
theorem pad_set (vs : List Nat) (v : Nat) (h : vs.length < 26) : (pad vs).set vs.length (v : Int) = pad (vs ++ [v]) := by
  obtain ⟨n, hn⟩ : ∃ n, 26 - vs.length = n + 1 := ⟨25 - vs.length, by omega⟩
  have h2 : 26 - (vs ++ [v]).length = n := by simp; omega
  rw [pad, pad, hn, h2, List.set_append_right _ _ (by simp), List.length_map, Nat.sub_self]
  simp [List.replicate_succ]
theorem pad_full (vs : List Nat) (h : vs.length = 26) : pad vs = vs.map Int.ofNat := by simp [pad, h]

theorem lineAt_le {s : ByteArray} (h : s.size ≤ 65536) (x : Nat) : (lineAt s x).size ≤ 65536 := by
  have h1 := lineOf_len (s.data.toList.drop x)
  rw [List.length_drop] at h1
  have h2 : s.data.toList.length = s.size := rfl
  show (lineOf (s.data.toList.drop x)).toArray.size ≤ _
  rw [List.size_toArray]; omega
theorem lbl_le (k : Nat) : (lbl k).size ≤ 10 := by
  show (lblB k).toArray.size ≤ 10
  rw [List.size_toArray]; exact lblB_len k

theorem KpS.set {B B' : Nat} {s : ByteArray} {W : World} (h : B ≠ B') (i : Nat) (v : Value) : KpS B s W (W.setCell ⟨B', i, none⟩ v) := fun e => by
  have hh := heap_setCell_other W ⟨B', i, none⟩ B v h
  simp only [World.cell?] at e ⊢
  rw [hh]; exact e

theorem pOut_bad {s : ByteArray} (hs : s.size ≤ 65536) {a : Nat} (h : parseV s.data.toList = .inl a) : pOut s = ⟨0, 0, zeroL, a, 36⟩ := by
  rw [pOut, if_neg (by omega), h]
theorem pOut_range {s : ByteArray} (hs : s.size ≤ 65536) {m : List Nat} {x y : Int} {l : List Int} (h : parseV s.data.toList = .inr m) (hm : m.map Int.ofNat = x :: y :: l) (hn : ¬ okT x y l) : pOut s = ⟨0, 0, zeroL, 0, 34⟩ := by
  rw [pOut, if_neg (by omega), h]
  simp only
  generalize m.map Int.ofNat = mm at hm ⊢
  subst hm
  exact if_neg hn
theorem pOut_ok {s : ByteArray} (hs : s.size ≤ 65536) {m : List Nat} {x y : Int} {l : List Int} (h : parseV s.data.toList = .inr m) (hm : m.map Int.ofNat = x :: y :: l) (hn : okT x y l) : pOut s = ⟨x, y, l, 0, 0⟩ := by
  rw [pOut, if_neg (by omega), h]
  simp only
  generalize m.map Int.ofNat = mm at hm ⊢
  subst hm
  exact if_pos hn
theorem RowAt.end_ {W : World} {D B : Nat} {t : TypeId} {cs : Array Value} {o : Obj} {ds : Option (List Deferred)} (h : RowAt W B t cs) (hK : W.heap[D]? = some (.deferred ds)) : RowAt (W.putObj D o) B t cs :=
  h.kept (grownBy_putObj' W D o) (fun e => by cases e; rw [show W.heap[D]? = _ from h] at hK; cases hK)

def ParI (s : ByteArray) (w0 : World) (b : Nat) (pre : List Nat) (W : World) : Prop :=
  ∃ vs, Good s.data.toList pre vs ∧ pre.length ≤ 26 ∧ RowAt W b 51 (rowA (pad vs)) ∧ RowAt W (b + 1) 3 #[.int .i64 (pre.length : Int)] ∧ RowAt W w0.heap.size 24 (tabA 0 0 zeroL) ∧ RowAt W (w0.heap.size + 1) 33 (faultA 0 0) ∧ Below w0.heap.size w0 W
def ParX (s : ByteArray) (w0 : World) (c : Code) (pre : List Nat) (W : World) : Prop :=
  c = .ret ∧ ∃ p x vs, pre = p ++ [x] ∧ Good s.data.toList p vs ∧ p.length ≤ 26 ∧ (p.length = 26 ∨ valL (lblB p.length ++ [32]) (lineOf (s.data.toList.drop x)) = none) ∧ RowAt W w0.heap.size 24 (tabA 0 0 zeroL) ∧ RowAt W (w0.heap.size + 1) 33 (faultA x 36) ∧ Below w0.heap.size w0 W
theorem ParI.own {s : ByteArray} {w0 : World} {b B : Nat} (hB : w0.heap.size ≤ B) : OwnFrom B (ParI s w0 b) := fun pre X Y row hs hg hr => by
  obtain ⟨vs, h1, h2, h3, h4, h5, h6, h7⟩ := hs
  exact ⟨vs, h1, h2, h3.nc hg hr, h4.nc hg hr, h5.nc hg hr, h6.nc hg hr, h7.grown hg h7.size (fun k e => Nat.le_trans hB (hr k e).1)⟩
theorem ParX.own {s : ByteArray} {w0 : World} {B : Nat} (hB : w0.heap.size ≤ B) (c : Code) : OwnFrom B (ParX s w0 c) := fun pre X Y row hs hg hr => by
  obtain ⟨h0, p, x, vs, h1, h2, h3, h4, h5, h6, h7⟩ := hs
  exact ⟨h0, p, x, vs, h1, h2, h3, h4, h5.nc hg hr, h6.nc hg hr, h7.grown hg h7.size (fun k e => Nat.le_trans hB (hr k e).1)⟩

theorem zeros26r : rowA (pad []) = #[Value.int .i64 0, Value.int .i64 0, Value.int .i64 0, Value.int .i64 0, Value.int .i64 0, Value.int .i64 0, Value.int .i64 0, Value.int .i64 0, Value.int .i64 0, Value.int .i64 0, Value.int .i64 0, Value.int .i64 0, Value.int .i64 0, Value.int .i64 0, Value.int .i64 0, Value.int .i64 0, Value.int .i64 0, Value.int .i64 0, Value.int .i64 0, Value.int .i64 0, Value.int .i64 0, Value.int .i64 0, Value.int .i64 0, Value.int .i64 0, Value.int .i64 0, Value.int .i64 0] := rfl

set_option maxRecDepth 100000 in
set_option maxHeartbeats 4000000 in
theorem parse_short_in (s : ByteArray) (w : World) (hs : s.size ≤ 65536) (hN : NamesAt w) : Calls Tryd.prog 9 #[.string s] w fun e w' => e = pEnd (pOut s) ∧ Below w.heap.size w w' := by
  have HR0 : Hid (RowAt ((w.alloc (.cells (tabA 0 0 zeroL) 24)).alloc (.cells (faultA 0 0) 33)) w.heap.size 24 (tabA 0 0 zeroL)) := heap_alloc2_old _ _ _
  have HR1 : Hid (RowAt ((w.alloc (.cells (tabA 0 0 zeroL) 24)).alloc (.cells (faultA 0 0) 33)) (w.heap.size + 1) 33 (faultA 0 0)) := heap_alloc2_new _ _ _
  have HBA : Hid (Below w.heap.size w ((w.alloc (.cells (tabA 0 0 zeroL) 24)).alloc (.cells (faultA 0 0) 33))) := ((Below.refl _ _).alloc (Nat.le_refl _) _).alloc (by simp) _
  have HSA : Hid (((w.alloc (.cells (tabA 0 0 zeroL) 24)).alloc (.cells (faultA 0 0) 33)).heap.size = w.heap.size + 2) := by show _ = _; simp
  have HSZ := Lib.hid hs
  have HN := Lib.hid hN
  have hi : ¬ (65536 : Int) < s.size := by omega
  clear hs hN
  refine (callsIn_wide (n := 8)).1 ?_
  refine callsIn_of_wp_marks Tryd.func9 rfl trivial ?_ rfl
  simp only [Tryd.ntmps9, List.size_toArray, List.length_cons, List.length_nil, Nat.reduceAdd, Nat.reduceSub, Array.replicate_succ, Array.replicate_zero, List.push_toArray, List.append_toArray, List.nil_append, List.cons_append]
  gi_upto_region 1 with (fail)
  simp only [zeros26, faultA] at HR0 HR1 HBA HSA
  generalize World.alloc (World.alloc w _) _ = wA at HR0 HR1 HBA HSA ⊢
  have HI : Hid (ParI s w wA.heap.size [] ((wA.alloc (.cells (rowA (pad [])) 51)).alloc (.cells #[.int .i64 0] 3))) := by
    have e := HSA.out
    exact ⟨[], Good.nil _, by simp, (RowAt.new wA _ _).alloc _, by have := RowAt.new (wA.alloc (.cells (rowA (pad [])) 51)) 3 #[.int .i64 0]; simpa using this, (HR0.out.alloc _).alloc _, (HR1.out.alloc _).alloc _, (HBA.out.alloc (by omega) _).alloc (by simp; omega) _⟩
  simp only [zeros26r] at HI
  gi_upto_region 5 with (fail)
  have HSB : Hid (((wA.alloc (.cells (rowA (pad [])) 51)).alloc (.cells #[.int .i64 0] 3)).heap.size = wA.heap.size + 2) := by show _ = _; simp
  simp only [zeros26r] at HSB
  have HLE : Hid (wA.heap.size = w.heap.size + 2) := HSA
  clear HR0 HR1 HBA HSA
  generalize World.alloc (World.alloc wA _) _ = wB at HI HSB ⊢
  generalize wA.heap.size = b at HI HSB HLE ⊢
  have HSB' := HSB.out
  gi_wp2_with (refine ⟨trivial, ?_⟩; gi_at_call 25; refine (callsIn_wide.2 (lines_any s _)).mono ?_; rintro e w' ⟨rfl, rfl⟩)
  have bS : Boxed (wB.alloc (.cells #[.string s] 9)) (b + 2) 9 (.string s) := by have := Boxed.new wB 9 (.string s); rwa [HSB.out] at this
  have hi0 : ParI s w b [] (wB.alloc (.cells #[.string s] 9)) := (ParI.own (B := w.heap.size) (Nat.le_refl _)).alloc _ HI.out
  have hsz : (wB.alloc (.cells #[.string s] 9)).heap.size = b + 3 := by simp [HSB.out]
  clear HI
  generalize wB.alloc (.cells #[.string s] 9) = wC at bS hi0 hsz ⊢
  have HBS := Lib.hid bS
  refine wpIn_rangeFunc_ownF rfl (by omega) (gf := 38) (lb := #[.pointer (some ⟨b + 2, 0, none⟩)]) rfl trivial (enters_of Tryd.func38 (by kernel_rfl) rfl)
    (lines1_stops _ (by omega) (b + 2) s HSZ.out wC (by omega) bS.cell) KpS.t (fun W l o o' _ h ho _ => KpS.b W l o o' h ho) (Below.refl _ _) (fun _ => rfl)
    (ParI s w b) (ParX s w) (ParI.own (by have := HLE.out; omega)) (ParX.own (by have := HLE.out; omega)) hi0
    (fun x => { tmps := #[.string s, undef, .pointer (some ⟨w.heap.size, 0, none⟩), .pointer (some ⟨w.heap.size + 1, 0, none⟩), .pointer (some ⟨b, 0, none⟩), .pointer (some ⟨b + 1, 0, none⟩), .int .i64 (x : Int), .string (lineAt s x), undef, undef, undef, undef, .string s, .int .i64 (s.size : Int), .bool false, undef, undef, .string s, .func (.func 38) #[] #[.pointer (some ⟨b + 2, 0, none⟩)], .int .i64 (x : Int), .string (lineAt s x), undef, undef, undef, undef, undef, undef, undef, undef, undef, undef, undef, undef, undef, undef, undef, undef, undef, undef, undef, undef, undef, undef, undef, undef, undef, undef, undef, undef, undef, undef, undef, undef, undef, undef, undef, undef, undef, undef, undef], defers := [] }) ?assign ?body ?done ?stop
  case assign =>
    intro l x W K hK
    simp only [encL]
    gi_wp2
    exact hK
  case body =>
    rintro l pre x W hI _
    obtain ⟨vs, h1, h2, h3, h4, h5, h6, h7⟩ := hI
    have HG := Lib.hid h1
    have HL := Lib.hid h2
    have H3 := Lib.hid h3
    have H4 := Lib.hid h4
    have H5 := Lib.hid h5
    have H6 := Lib.hid h6
    have H7 := Lib.hid h7
    have c0 := h4.cell 0
    have g0 := h4.frozen 0
    clear h1 h2 h3 h4 h5 h6 h7 bS hi0 hsz HSB'
    simp only [List.getElem?_toArray, List.getElem?_cons_zero] at c0
    by_cases h26 : pre.length = 26
    · rw [h26] at c0
      have HB1 : Hid (Tryd.prog.built 24 [] = some (tabA 0 0 zeroL)) := by show _ = _; kernel_rfl
      have HB2 : Hid (Tryd.prog.built 33 [(0, .int .i64 (x : Int)), (1, .int .i64 36)] = some (faultA x 36)) := by show _ = _; kernel_rfl
      have HS := Lib.hid (size_tabA 0 0 zeroL rfl)
      have HSF := Lib.hid (size_fault x 36)
      have HX := Lib.hid h26
      clear h26
      gi_wp2_with (first
        | (refine wpListIn_build_at rfl 24 #[] rfl (tabA 0 0 zeroL) HB1.out ?_)
        | (refine wpListIn_build_at rfl 33 #[(0, Operand.tmp 24), (1, Operand.const (.int .i64 36))] rfl (faultA x 36) HB2.out ?_)
        | (refine wpListIn_store_row rfl 24 (Operand.tmp 2) (Operand.tmp 23) rfl w.heap.size (tabA 0 0 zeroL) rfl rfl 24 _ H5.out HS.out (by rfl) (tabA_one _ _ _) ?_)
        | (refine wpListIn_store_row rfl 33 (Operand.tmp 3) (Operand.tmp 25) rfl (w.heap.size + 1) (faultA x 36) rfl rfl 33 _ (H6.out.otherRow (by omega) _) HSF.out rfl (faultA_one _ _) ?_))
      refine ⟨(setRow_keeps H5.out _).trans (setRow_keeps (H6.out.otherRow (by omega) _) _), rfl, pre, x, vs, rfl, HG.out, HL.out, .inl HX.out, (H5.out.setRow _).otherRow (by omega) _, (H6.out.otherRow (by omega) _).setRow _, ?_⟩
      exact H7.out.trans ((setRow_below (Nat.le_refl _) _).trans (setRow_below (Nat.le_succ _) _))
    · have hlt : pre.length < 26 := by have := HL.out; omega
      have hne : ((pre.length : Int) == 26) = false := beq_eq_false_iff_ne.2 (by omega)
      have HLT := Lib.hid hlt
      have HLAB := Lib.hid (label_any pre.length W hlt (NamesAt.below HN.out H7.out))
      clear h26 hlt
      have HV := Lib.hid (valueof_any (lineAt s x) (lbl pre.length) (lineAt_le HSZ.out x) (lbl_le _) W)
      have hvm := valV_mk pre.length (lineOf (s.data.toList.drop x))
      cases hv : valL (lblB pre.length ++ [32]) (lineOf (s.data.toList.drop x)) with
      | none =>
        have HVL : Hid (Calls Tryd.prog 26 #[.string (lineAt s x), .string (lbl pre.length)] W fun e w' => e = .returned (.tuple #[.int .i64 0, .bool false]) ∧ W = w') := by
          have := HV.out
          rw [lineAt, hvm, hv] at this
          exact this
        have HX := Lib.hid hv
        have HB1 : Hid (Tryd.prog.built 24 [] = some (tabA 0 0 zeroL)) := by show _ = _; kernel_rfl
        have HB2 : Hid (Tryd.prog.built 33 [(0, .int .i64 (x : Int)), (1, .int .i64 36)] = some (faultA x 36)) := by show _ = _; kernel_rfl
        have HS := Lib.hid (size_tabA 0 0 zeroL rfl)
        have HSF := Lib.hid (size_fault x 36)
        clear hv hvm HV
        gi_wp2_with (first
          | (refine ⟨trivial, ?_⟩; gi_at_call 18; refine (CallsIn.inRound l (callsIn_wide.2 HLAB.out)).mono ?_; rintro e w' ⟨rfl, rfl⟩)
          | (refine ⟨trivial, ?_⟩; gi_at_call 26; refine (CallsIn.inRound l (callsIn_wide.2 HVL.out)).mono ?_; rintro e w' ⟨rfl, rfl⟩)
          | (refine wpListIn_build_at rfl 24 #[] rfl (tabA 0 0 zeroL) HB1.out ?_)
          | (refine wpListIn_build_at rfl 33 #[(0, Operand.tmp 36), (1, Operand.const (.int .i64 36))] rfl (faultA x 36) HB2.out ?_)
          | (refine wpListIn_store_row rfl 24 (Operand.tmp 2) (Operand.tmp 35) rfl w.heap.size (tabA 0 0 zeroL) rfl rfl 24 _ H5.out HS.out (by rfl) (tabA_one _ _ _) ?_)
          | (refine wpListIn_store_row rfl 33 (Operand.tmp 3) (Operand.tmp 37) rfl (w.heap.size + 1) (faultA x 36) rfl rfl 33 _ (H6.out.otherRow (by omega) _) HSF.out rfl (faultA_one _ _) ?_))
        refine ⟨(setRow_keeps H5.out _).trans (setRow_keeps (H6.out.otherRow (by omega) _) _), rfl, pre, x, vs, rfl, HG.out, HL.out, .inr HX.out, (H5.out.setRow _).otherRow (by omega) _, (H6.out.otherRow (by omega) _).setRow _, ?_⟩
        exact H7.out.trans ((setRow_below (Nat.le_refl _) _).trans (setRow_below (Nat.le_succ _) _))
      | some v =>
        have HVL : Hid (Calls Tryd.prog 26 #[.string (lineAt s x), .string (lbl pre.length)] W fun e w' => e = .returned (.tuple #[.int .i64 (v : Int), .bool true]) ∧ W = w') := by
          have := HV.out
          rw [lineAt, hvm, hv] at this
          exact this
        have HGN := Lib.hid (HG.out.snoc hv)
        have HVSL : Hid (vs.length = pre.length) := HG.out.1
        have hps : pad (vs ++ [v]) = (pad vs).set pre.length (v : Int) := by rw [← HVSL.out]; exact (pad_set vs v (by have := HVSL.out; have := HLT.out; omega)).symm
        have HPS := Lib.hid hps
        have hcv : W.cell? ⟨b, pre.length, none⟩ = some (.int .i64 ((pad vs).getD pre.length 0)) := row_cell H3.out pre.length (by rw [pad_len vs (by have := HVSL.out; have := HL.out; omega)]; exact HLT.out)
        have hfv := H3.out.frozen pre.length
        have hl0 : (0 : Int) ≤ pre.length := by omega
        have hl1 : (pre.length : Int) < 26 := by have := HLT.out; omega
        clear hv hvm HV hps
        gi_wp2_with (first
          | (refine ⟨trivial, ?_⟩; gi_at_call 18; refine (CallsIn.inRound l (callsIn_wide.2 HLAB.out)).mono ?_; rintro e w' ⟨rfl, rfl⟩)
          | (refine ⟨trivial, ?_⟩; gi_at_call 26; refine (CallsIn.inRound l (callsIn_wide.2 HVL.out)).mono ?_; rintro e w' ⟨rfl, rfl⟩))
        have e1 : ((pre ++ [x]).length : Int) = (pre.length : Int) + 1 := by simp
        refine ⟨(KeepsOthers.setCell _ _ _).trans (KeepsOthers.setCell _ _ _), (KpS.set (by omega) _ _).t (KpS.set (by omega) _ _), vs ++ [v], HGN.out, by have := HLT.out; simp; omega, ?_, ?_, (H5.out.other (by have := HLE.out; omega) _ _).other (by have := HLE.out; omega) _ _, (H6.out.other (by have := HLE.out; omega) _ _).other (by have := HLE.out; omega) _ _, ?_⟩
        · rw [HPS.out, ← rowA_set]
          exact (H3.out.set _ _).other (by omega) _ _
        · rw [e1]
          exact (H4.out.other (by omega) _ _).set 0 _
        · exact (H7.out.setCell (by have := HLE.out; simp; omega) _).setCell (by have := HLE.out; simp; omega) _
  case done =>
    rintro D ys W hD hc hI hK
    obtain ⟨vs, h1, h2, h3, h4, h5, h6, h7⟩ := hI
    have hDw : w.heap.size ≤ D := by have := HLE.out; omega
    have HDW := Lib.hid hDw
    by_cases hlt : ys.length < 26
    · have HP := Lib.hid (pOut_bad HSZ.out (parse_short hc h1 hlt))
      have H5 := Lib.hid h5
      have H6 := Lib.hid h6
      have H7 := Lib.hid h7
      have HK := Lib.hid hK
      have c0 := h4.cell 0
      simp only [List.getElem?_toArray, List.getElem?_cons_zero] at c0
      have hl : (ys.length : Int) < 26 := by omega
      have HB1 : Hid (Tryd.prog.built 24 [] = some (tabA 0 0 zeroL)) := by show _ = _; kernel_rfl
      have HB2 : Hid (Tryd.prog.built 33 [(0, .int .i64 (s.size : Int)), (1, .int .i64 36)] = some (faultA s.size 36)) := by show _ = _; kernel_rfl
      have HS := Lib.hid (size_tabA 0 0 zeroL rfl)
      have HSF := Lib.hid (size_fault s.size 36)
      clear h1 h2 h3 h4 h5 h6 h7 hc hK hlt bS hi0 hsz HSB' hDw hD
      gi_wp2_with (first
        | (refine wpListIn_build_at rfl 24 #[] rfl (tabA 0 0 zeroL) HB1.out ?_)
        | (refine wpListIn_build_at rfl 33 #[(0, Operand.tmp 47), (1, Operand.const (.int .i64 36))] rfl (faultA s.size 36) HB2.out ?_)
        | (refine wpListIn_store_row rfl 24 (Operand.tmp 2) (Operand.tmp 45) rfl w.heap.size (tabA 0 0 zeroL) rfl rfl 24 _ H5.out HS.out (by rfl) (tabA_one _ _ _) ?_)
        | (refine wpListIn_store_row rfl 33 (Operand.tmp 3) (Operand.tmp 48) rfl (w.heap.size + 1) (faultA s.size 36) rfl rfl 33 _ (H6.out.otherRow (by omega) _) HSF.out rfl (faultA_one _ _) ?_))
      have hK' := ((setRow_keeps H5.out (tabA 0 0 zeroL)).trans (setRow_keeps (H6.out.otherRow (by omega) (tabA 0 0 zeroL)) (faultA s.size 36))).same D _ HK.out rfl
      refine ⟨by simp, .inl ⟨_, _, rfl, run_takeDeferred hK', ?_⟩⟩
      rw [HP.out]
      refine ⟨_, results_two_rows rfl _ _ w.heap.size (w.heap.size + 1) 24 33 (tabA 0 0 zeroL) (faultA s.size 36) _ _ rfl (((H5.out.setRow _).otherRow (by omega) _).end_ hK') Tryd.underlying24 rfl HS.out rfl (((H6.out.otherRow (by omega) _).setRow _).end_ hK') Tryd.underlying33 rfl HSF.out, rfl, ?_⟩
      exact (H7.out.trans ((setRow_below (Nat.le_refl _) _).trans (setRow_below (Nat.le_succ _) _))).trans (belowK_b (w := w) (Nat.le_refl _) _ D _ _ HDW.out hK' rfl rfl)
    · have h26 : ys.length = 26 := by omega
      have hv26 : vs.length = 26 := h1.1.trans h26
      have hpv := parse_done hc h1 h26
      obtain ⟨x, y, l, hxy⟩ : ∃ x y l, vs.map Int.ofNat = x :: y :: l := by
        match vs, hv26 with
        | a :: b :: r, _ => exact ⟨_, _, _, rfl⟩
      have hll : l.length = 24 := by have := congrArg List.length hxy; simp [hv26] at this; omega
      rw [pad_full vs hv26, hxy] at h3
      rw [h26] at h4
      have hlW := h3.lt
      have HL := Lib.hid hll
      have H3 := Lib.hid h3
      have H5 := Lib.hid h5
      have H6 := Lib.hid h6
      have H7 := Lib.hid h7
      have HK := Lib.hid hK
      have HP1 := Lib.hid (fun hn => pOut_range HSZ.out hpv hxy hn)
      have HP2 := Lib.hid (fun hn => pOut_ok HSZ.out hpv hxy hn)
      have c0 := h4.cell 0
      simp only [List.getElem?_toArray, List.getElem?_cons_zero] at c0
      have HI26 : Hid ((Tryd.prog.info? 51).map (·.size) = some (rowA (x :: y :: l)).size) := by
        have isz : (Tryd.prog.info? 51).map (·.size) = some 26 := by kernel_rfl
        show _ = _
        rw [rowA_size, isz]; simp [HL.out]
      have HDL : Hid (D < W.heap.size) := (Array.getElem?_eq_some_iff.1 hK).1
      have HRL : Hid (w.heap.size + 1 < W.heap.size) := h6.lt
      clear h1 h2 h3 h4 h5 h6 h7 hc hK hlt h26 hv26 hpv hxy hll bS hi0 hsz HSB' hDw hD hlW
      gi_wp2_with (first
        | (refine wpListIn_load_row rfl 51 (Operand.tmp 4) rfl b rfl 51 (rowA (x :: y :: l)) (0, 0) _ H3.out Tryd.underlying51 rfl HI26.out ?_)
        | (refine ⟨trivial, ?_⟩; gi_at_call 27; refine (callsIn_wide.2 (tableof_any x y l HL.out W)).mono ?_))
      rintro e w1 ⟨rfl, hb⟩
      have H5' := Lib.hid (H5.out.below hb (by have := HRL.out; omega))
      have H6' := Lib.hid (H6.out.below hb HRL.out)
      have HK' := Lib.hid ((hb.block D HDL.out).trans HK.out)
      have H7' := Lib.hid (H7.out.trans (hb.mono (by have := HRL.out; omega)))
      have HRL1 : Hid (w.heap.size + 1 < w1.heap.size) := Nat.lt_of_lt_of_le HRL.out hb.size
      have HNW : Hid (RowAt (w1.alloc (.cells (tabA 0 0 zeroL) 24)) w1.heap.size 24 (tabA 0 0 zeroL)) := RowAt.new _ _ _
      have HSX := Lib.hid (size_tabA x y l HL.out)
      have HO : Hid ((tabA 0 0 zeroL).size = (tabA x y l).size) := by show (tabA 0 0 zeroL).size = (tabA x y l).size; rw [tabA_size, tabA_size, HL.out]; rfl
      have HN5 := Lib.hid ((H5'.out.alloc (.cells (tabA 0 0 zeroL) 24)).otherRow (B' := w1.heap.size) (by have := HRL1.out; omega) (tabA x y l))
      have HN6 := Lib.hid ((H6'.out.alloc (.cells (tabA 0 0 zeroL) 24)).otherRow (B' := w1.heap.size) (by have := HRL1.out; omega) (tabA x y l))
      have HNX := Lib.hid (HNW.out.setRow (tabA x y l))
      have HNK : Hid (((w1.alloc (.cells (tabA 0 0 zeroL) 24)).setRow w1.heap.size (tabA x y l)).heap[D]? = some (.deferred (some []))) :=
        (setRow_keeps HNW.out (tabA x y l)).same D _ ((KeepsOthers.alloc w1 _).same D _ HK'.out rfl) rfl
      have HN7 : Hid (Below w.heap.size w ((w1.alloc (.cells (tabA 0 0 zeroL) 24)).setRow w1.heap.size (tabA x y l))) :=
        (H7'.out.alloc (by have := HRL1.out; omega) _).trans (setRow_below (by have := HRL1.out; omega) _)
      have HNL : Hid (w1.heap.size < ((w1.alloc (.cells (tabA 0 0 zeroL) 24)).setRow w1.heap.size (tabA x y l)).heap.size) := HNX.out.lt
      rw [zeros26] at HNW HO HN5 HN6 HNX HNK HN7 HNL
      clear hb H3 H5 H6 H7 HK HDL HRL H5' H6' HK' H7'
      gi_upto_region 18 with (refine wpListIn_store_row rfl 24 (Operand.tmp 10) (Operand.tmp 50) rfl w1.heap.size (tabA x y l) rfl rfl 24 _ HNW.out HSX.out HO.out (tabA_one _ _ _) ?_)
      generalize World.setRow (World.alloc w1 _) _ _ = wE at HN5 HN6 HNX HNK HN7 HNL ⊢
      generalize w1.heap.size = g at HNX HNL HRL1 ⊢
      clear HNW HO
      have hgr : w.heap.size + 1 < g := HRL1.out
      by_cases hok : okT x y l
      · have HP := Lib.hid (HP2.out hok)
        have HC := Lib.hid (check_ok x y l HL.out wE hok)
        clear hok HP1 HP2
        gi_wp2_with (first
          | (refine wpListIn_load_row rfl 24 (Operand.tmp 10) rfl g rfl 24 (tabA x y l) (0, 0) _ HNX.out Tryd.underlying24 rfl HSX.out ?_)
          | (refine ⟨trivial, ?_⟩; gi_at_call 15; refine (callsIn_wide.2 HC.out).mono ?_))
        rintro e w2 ⟨rfl, hb⟩
        have H5 := Lib.hid (HN5.out.below hb (by have := HNL.out; omega))
        have H6 := Lib.hid (HN6.out.below hb (by have := HNL.out; omega))
        have HX := Lib.hid (HNX.out.below hb HNL.out)
        have HK := Lib.hid ((hb.block D (Array.getElem?_eq_some_iff.1 HNK.out).1).trans HNK.out)
        have H7 := Lib.hid (HN7.out.trans (hb.mono (by have := HNL.out; omega)))
        have HB2 : Hid (Tryd.prog.built 33 [] = some (faultA 0 0)) := by show _ = _; kernel_rfl
        have HSF := Lib.hid (size_fault 0 0)
        have HO : Hid ((tabA 0 0 zeroL).size = (tabA x y l).size) := by show (tabA 0 0 zeroL).size = (tabA x y l).size; rw [tabA_size, tabA_size, HL.out]; rfl
        clear hb HN5 HN6 HNX HNK HN7 HNL
        gi_wp2_with (first
          | (refine wpListIn_load_row rfl 24 (Operand.tmp 10) rfl g rfl 24 (tabA x y l) (0, 0) _ HX.out Tryd.underlying24 rfl HSX.out ?_)
          | (refine wpListIn_build_at rfl 33 #[] rfl (faultA 0 0) HB2.out ?_)
          | (refine wpListIn_store_row rfl 24 (Operand.tmp 2) (Operand.tmp 58) rfl w.heap.size (tabA x y l) rfl rfl 24 _ H5.out HSX.out HO.out (tabA_one _ _ _) ?_)
          | (refine wpListIn_store_row rfl 33 (Operand.tmp 3) (Operand.tmp 59) rfl (w.heap.size + 1) (faultA 0 0) rfl rfl 33 _ (H6.out.otherRow (by omega) _) HSF.out rfl (faultA_one _ _) ?_))
        have hK' := ((setRow_keeps H5.out (tabA x y l)).trans (setRow_keeps (H6.out.otherRow (by omega) (tabA x y l)) (faultA 0 0))).same D _ HK.out rfl
        refine ⟨by simp, .inl ⟨_, _, rfl, run_takeDeferred hK', ?_⟩⟩
        rw [HP.out]
        refine ⟨_, results_two_rows rfl _ _ w.heap.size (w.heap.size + 1) 24 33 (tabA x y l) (faultA 0 0) _ _ rfl (((H5.out.setRow _).otherRow (by omega) _).end_ hK') Tryd.underlying24 rfl HSX.out rfl (((H6.out.otherRow (by omega) _).setRow _).end_ hK') Tryd.underlying33 rfl HSF.out, rfl, ?_⟩
        exact (H7.out.trans ((setRow_below (Nat.le_refl _) _).trans (setRow_below (Nat.le_succ _) _))).trans (belowK_b (w := w) (Nat.le_refl _) _ D _ _ HDW.out hK' rfl rfl)
      · have HP := Lib.hid (HP1.out hok)
        have HC := Lib.hid (check_no x y l HL.out wE hok)
        clear hok HP1 HP2
        gi_wp2_with (first
          | (refine wpListIn_load_row rfl 24 (Operand.tmp 10) rfl g rfl 24 (tabA x y l) (0, 0) _ HNX.out Tryd.underlying24 rfl HSX.out ?_)
          | (refine ⟨trivial, ?_⟩; gi_at_call 15; refine (callsIn_wide.2 HC.out).mono ?_))
        rintro e w2 ⟨rfl, hb⟩
        have H5 := Lib.hid (HN5.out.below hb (by have := HNL.out; omega))
        have H6 := Lib.hid (HN6.out.below hb (by have := HNL.out; omega))
        have HK := Lib.hid ((hb.block D (Array.getElem?_eq_some_iff.1 HNK.out).1).trans HNK.out)
        have H7 := Lib.hid (HN7.out.trans (hb.mono (by have := HNL.out; omega)))
        have HB1 : Hid (Tryd.prog.built 24 [] = some (tabA 0 0 zeroL)) := by show _ = _; kernel_rfl
        have HB2 : Hid (Tryd.prog.built 33 [(0, .int .i64 0), (1, .int .i64 34)] = some (faultA 0 34)) := by show _ = _; kernel_rfl
        have HS := Lib.hid (size_tabA 0 0 zeroL rfl)
        have HSF := Lib.hid (size_fault 0 34)
        clear hb HN5 HN6 HNX HNK HN7 HNL
        gi_wp2_with (first
          | (refine wpListIn_build_at rfl 24 #[] rfl (tabA 0 0 zeroL) HB1.out ?_)
          | (refine wpListIn_build_at rfl 33 #[(0, Operand.const (.int .i64 0)), (1, Operand.tmp 56)] rfl (faultA 0 34) HB2.out ?_)
          | (refine wpListIn_store_row rfl 24 (Operand.tmp 2) (Operand.tmp 55) rfl w.heap.size (tabA 0 0 zeroL) rfl rfl 24 _ H5.out HS.out (by rfl) (tabA_one _ _ _) ?_)
          | (refine wpListIn_store_row rfl 33 (Operand.tmp 3) (Operand.tmp 57) rfl (w.heap.size + 1) (faultA 0 34) rfl rfl 33 _ (H6.out.otherRow (by omega) _) HSF.out rfl (faultA_one _ _) ?_))
        have hK' := ((setRow_keeps H5.out (tabA 0 0 zeroL)).trans (setRow_keeps (H6.out.otherRow (by omega) (tabA 0 0 zeroL)) (faultA 0 34))).same D _ HK.out rfl
        refine ⟨by simp, .inl ⟨_, _, rfl, run_takeDeferred hK', ?_⟩⟩
        rw [HP.out]
        refine ⟨_, results_two_rows rfl _ _ w.heap.size (w.heap.size + 1) 24 33 (tabA 0 0 zeroL) (faultA 0 34) _ _ rfl (((H5.out.setRow _).otherRow (by omega) _).end_ hK') Tryd.underlying24 rfl HS.out rfl (((H6.out.otherRow (by omega) _).setRow _).end_ hK') Tryd.underlying33 rfl HSF.out, rfl, ?_⟩
        exact (H7.out.trans ((setRow_below (Nat.le_refl _) _).trans (setRow_below (Nat.le_succ _) _))).trans (belowK_b (w := w) (Nat.le_refl _) _ D _ _ HDW.out hK' rfl rfl)
  case stop =>
    rintro D c pre W hD ⟨e, hc⟩ ⟨rfl, p, x, vs, rfl, h1, h2, h3, h5, h6, h7⟩ hK
    have HP := Lib.hid (pOut_bad HSZ.out (parse_fault hc h1 h2 h3))
    have HDW : Hid (w.heap.size ≤ D) := by show _ ≤ _; have := HLE.out; omega
    have H5 := Lib.hid h5
    have H6 := Lib.hid h6
    have H7 := Lib.hid h7
    have HS := Lib.hid (size_tabA 0 0 zeroL rfl)
    have HSF := Lib.hid (size_fault x 36)
    clear h1 h2 h3 h5 h6 h7 hc bS hi0 hsz HSB' hD
    gi_wp2
    refine ⟨by simp, .inl ⟨_, _, rfl, run_takeDeferred hK, ?_⟩⟩
    rw [HP.out]
    refine ⟨_, results_two_rows rfl _ _ w.heap.size (w.heap.size + 1) 24 33 (tabA 0 0 zeroL) (faultA x 36) _ _ rfl (H5.out.end_ hK) Tryd.underlying24 rfl HS.out rfl (H6.out.end_ hK) Tryd.underlying33 rfl HSF.out, rfl, ?_⟩
    exact H7.out.trans (belowK_b (w := w) (Nat.le_refl _) _ D _ _ HDW.out hK rfl rfl)

theorem parse_any (s : ByteArray) (w : World) (hN : NamesAt w) : Calls Tryd.prog 9 #[.string s] w fun e w' => e = pEnd (pOut s) ∧ Below w.heap.size w w' := by
  by_cases h : 65536 < s.size
  · exact parse_long s w h
  · exact parse_short_in s w (by omega) hN
end Go.Proofs.YtnnmmkimdknbgaaDoor
