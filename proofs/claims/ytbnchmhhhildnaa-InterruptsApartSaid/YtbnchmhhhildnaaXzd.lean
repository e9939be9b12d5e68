/- Interrupts: run. -/
import Derived.Test.YtbnchmhhhildnaaXzc
namespace Go.Proofs.Ytbnchmhhhildnaa
open Go.RowKit Go.Maps
set_option linter.unusedVariables false

/-- A call. -/
structure OpR where
  kd : Int
  ln : Int
  ix : Int
  k : Int
  c : Int
  p : Int
  d : Int
  v : Int
  fi : Bool
def opCs (o : OpR) : List Value := [.int .i64 o.kd, .int .i64 o.ln, .int .i64 o.ix, .int .i64 o.k, .int .i64 o.c, .int .i64 o.p, .int .i64 o.d, .int .i64 o.v, .bool o.fi]
theorem size_op : (Try.prog.info? 34).map (·.size) = some 9 := by kernel_rfl
theorem opC_one (kd ln ix k c p d v : Int) (fi : Bool) : (opC kd ln ix k c p d v fi).all (·.oneCell') = true := by simp [opC, Value.oneCell']
/-- These calls lie at a. -/
def OpsIn (w : World) (a : Option Addr) (P : List OpR) : Prop :=
  (P = [] ∨ ∃ b off, a = some ⟨b, off, none⟩ ∧ b < w.heap.size ∧ ∀ i o, P[i]? = some o → w.rangeAt b (off + i * 9) (opCs o)) ∧ ∀ o ∈ P, isW o.ln ∧ isW o.ix
theorem OpsIn.fr {w w' : World} {a : Option Addr} {P : List OpR} {S : Nat → Prop} (h : OpsIn w a P) (hf : Fr S w w') (hS : P ≠ [] → ∀ b off, a = some ⟨b, off, none⟩ → b < w.heap.size → ¬ S b) : OpsIn w' a P := by
  refine ⟨?_, h.2⟩
  by_cases hne : P = []
  · exact .inl hne
  right
  rcases h.1 with h0 | ⟨b, off, e, hb, hc⟩
  · exact absurd h0 hne
  refine ⟨b, off, e, Nat.lt_of_lt_of_le hb hf.size, fun i o ho j v hv => ?_⟩
  rw [← hc i o ho j v hv]
  exact World.cell?_of_block (hf.block b hb (hS hne b off e hb))
noncomputable def stepI (s : IS) (o : OpR) : IS :=
  if o.kd = 0 then (stA s o.ln o.ix o.k o.c o.p o.d o.v o.fi).1 else if o.kd = 1 then (stD s o.ix).1 else if o.kd = 2 then (stM s o.ln o.ix).1 else if o.kd = 3 then (stU s o.ln o.ix).1 else if o.kd = 4 then (stR s o.ln).1 else if o.kd = 5 then stV s else s
noncomputable def runS (s : IS) (P : List OpR) : IS := P.foldl stepI s
theorem stepI_ok {s : IS} (h : IOk s) (o : OpR) : IOk (stepI s o) := by
  unfold stepI
  split
  · exact stA_ok h _ _ _ _ _ _ _ _
  · split
    · exact stD_ok h _
    · split
      · exact stM_ok h _ _
      · split
        · exact stU_ok h _ _
        · split
          · exact stR_ok h _
          · split
            · exact stV_ok h
            · exact h
theorem runS_ok {s : IS} (h : IOk s) (P : List OpR) : IOk (runS s P) := by
  induction P generalizing s with
  | nil => exact h
  | cons o r ih => exact ih (stepI_ok h o)
theorem runS_take (s : IS) {P : List OpR} {i : Nat} {o : OpR} (h : P[i]? = some o) : runS s (P.take (i + 1)) = stepI (runS s (P.take i)) o := by
  rw [List.take_add_one, h]; simp [runS]
set_option maxRecDepth 100000 in
set_option maxHeartbeats 8000000 in
theorem run_ce {W : World} {O : Nat → Prop} {N B : Nat} {s : IS} {a : Option Addr} {P : List OpR} (cap : Nat) (h : CE O N W B s) (hk : IOk s) (hN : N ≤ W.heap.size) (hP : OpsIn W a P) (hb : P ≠ [] → ∀ b off, a = some ⟨b, off, none⟩ → b < W.heap.size → ¬ (O b ∨ N ≤ b)) (hl : P.length ≤ 40) :
    Calls Try.prog 19 #[.pointer (some ⟨B, 0, none⟩), .slice a P.length cap] W fun e w' => e = .returned (.tuple #[]) ∧ CE O N w' B (runS s P) ∧ Fr (Ft O N) W w' := by
  have HH := Lib.hid h
  have HK := Lib.hid hk
  have HN := Lib.hid hN
  have HP := Lib.hid hP
  have HB := Lib.hid hb
  have HL := Lib.hid hl
  have l40 : (P.length : Int) ≤ 40 := by omega
  clear h hk hN hP hb hl
  go_enter Try.func19, Try.ntmps19
  go_wp2
  go_loopw [5, 8] (fun v5 vi wr => ∃ i : Nat, vi = .int .i64 i ∧ Hid (i ≤ P.length ∧ CE O N wr B (runS s (P.take i)) ∧ Fr (Ft O N) W wr)) (fun _ vi _ => P.length - (intOf vi).toNat)
  case atStart => exact ⟨0, rfl, Nat.zero_le _, HH.out, Fr.refl _ _⟩
  case round =>
    obtain ⟨i, rfl, HI⟩ := hrel
    have i0 : (0 : Int) ≤ i := by omega
    have i2 : (i : Int) ≤ 1000 := by have := HI.out.1; have := HL.out; omega
    by_cases hi : i < P.length
    · have i1 : (i : Int) < (P.length : Nat) := by omega
      have ho := List.getElem?_eq_getElem hi
      generalize P[i] = o at ho
      have HQ := HP.out.fr HI.out.2.2 (fun hne b off e hb => HB.out hne b off e hb)
      have HWF := Lib.hid (HQ.2 o (List.mem_of_getElem? ho))
      rcases HQ.1 with e | ⟨b, off, rfl, hbl, hc⟩
      · rw [e] at hi; cases hi
      have HRA := Lib.hid (hc i o ho)
      have HR := Lib.hid (runS_take s ho)
      have HOK := Lib.hid (runS_ok HK.out (P.take i))
      have HCE := Lib.hid HI.out.2.1
      have HFW := Lib.hid HI.out.2.2
      have HI1 : Hid (i + 1 ≤ P.length) := hi
      have HMS : Hid (P.length - (intOf (Value.int IntKind.i64 ((i : Int) + 1))).toNat < P.length - (intOf (Value.int IntKind.i64 (i : Int))).toNat) := by
        show _ < _
        simp only [intOf]
        omega
      obtain ⟨kd, ln, ix, k, c, p, d, v, fi⟩ := o
      have HSZ : Hid (∀ w, Fr No wr w → N ≤ w.heap.size) := fun w f => Nat.le_trans HN.out (Nat.le_trans HFW.out.size f.size)
      clear HI hi ho hc hbl HQ
      generalize runS s (P.take i) = si at HR HOK HCE
      unfold opCs at HRA
      go_upto_region 3 with (first
        | ((with_reducible refine ld_gate ?_); refine wpList_load_mid rfl 34 (Operand.tmp 10) rfl b (off + i * 9) rfl [_, _, _, _, _, _, _, _, _] _ HRA.out Try.underlying34 rfl size_op ?_; go_frame)
        | ((with_reducible refine st_gate ?_); refine wpList_store_row rfl 34 (Operand.tmp 5) (Operand.tmp 11) rfl wr.heap.size (opC kd ln ix k c p d v fi) rfl rfl _ (opC 0 0 0 0 0 0 0 0 false) (RowAt.new wr _ _) size_op rfl (opC_one _ _ _ _ _ _ _ _ _) ?_; rw [World.setRow_alloc_new]))
      have HX0 := Lib.hid (RowAt.new wr 34 (opC kd ln ix k c p d v fi))
      have HF0 : Hid (Fr No wr (wr.alloc (.cells (opC kd ln ix k c p d v fi) 34))) := Fr.alloc _ _ _
      generalize World.alloc wr _ = W3 at HX0 HF0 ⊢
      generalize wr.heap.size = X at HX0 ⊢
      have HC3 := Lib.hid (HCE.out.no HF0.out)
      have HF3 := Lib.hid (HFW.out.trans HF0.out.any)
      have HN3 := Lib.hid (HSZ.out _ HF0.out)
      have x0 : W3.cell? ⟨X, 0, none⟩ = some (.int .i64 kd) := HX0.out.cell 0
      have x1 : W3.cell? ⟨X, 1, none⟩ = some (.int .i64 ln) := HX0.out.cell 1
      have x2 : W3.cell? ⟨X, 2, none⟩ = some (.int .i64 ix) := HX0.out.cell 2
      have x8 : W3.cell? ⟨X, 8, none⟩ = some (.bool fi) := HX0.out.cell 8
      have HEV : Hid (W3.rangeAt X 3 [.int .i64 k, .int .i64 c, .int .i64 p, .int .i64 d, .int .i64 v]) := fun j u hj => by
        rw [HX0.out.cell]
        match j, hj with
        | 0, hj => cases hj; rfl
        | 1, hj => cases hj; rfl
        | 2, hj => cases hj; rfl
        | 3, hj => cases hj; rfl
        | 4, hj => cases hj; rfl
      have HD := Lib.hid (deliver_ce HC3.out HOK.out)
      have HA := Lib.hid (att_ce HC3.out HOK.out HN3.out ln ix k c p d v fi)
      have HDT := Lib.hid (det_ce HC3.out HOK.out HN3.out HWF.out.2)
      have HM := Lib.hid (mask_ce HC3.out HOK.out ln ix)
      have HU := Lib.hid (unmask_ce HC3.out HOK.out ln ix)
      have HRS := Lib.hid (rai_ce HC3.out HOK.out ln)
      unfold evV at HA
      by_cases h0 : kd = 0
      · have HS : Hid (stepI si ⟨kd, ln, ix, k, c, p, d, v, fi⟩ = (stA si ln ix k c p d v fi).1) := by show _ = _; unfold stepI; simp [h0]
        rw [HS.out] at HR
        subst h0
        clear HS
        go_wp2_with (first
          | ((with_reducible refine ld_gate ?_); refine wpList_load_mid rfl 32 (Operand.tmp 21) rfl X 3 rfl [_, _, _, _, _] _ HEV.out Try.underlying32 rfl size_event ?_; go_frame)
          | (go_at_call 24; refine HA.out.mono ?_; rintro e w4 ⟨rfl, q1, q2⟩; have Q1 := Lib.hid q1; have Q2 := Lib.hid q2; clear q1 q2))
        go_roundw
        case rel => exact ⟨i + 1, by push_cast; rfl, HI1.out, by rw [HR.out]; exact Q1.out, HF3.out.trans Q2.out⟩
        case measure => exact HMS.out
      by_cases h1 : kd = 1
      · have HS : Hid (stepI si ⟨kd, ln, ix, k, c, p, d, v, fi⟩ = (stD si ix).1) := by show _ = _; unfold stepI; simp [h1]
        rw [HS.out] at HR
        subst h1
        clear HS
        go_wp2_with (first
          | (go_at_call 26; refine HDT.out.mono ?_; rintro e w4 ⟨rfl, q1, q2⟩; have Q1 := Lib.hid q1; have Q2 := Lib.hid q2; clear q1 q2))
        go_roundw
        case rel => exact ⟨i + 1, by push_cast; rfl, HI1.out, by rw [HR.out]; exact Q1.out, HF3.out.trans Q2.out⟩
        case measure => exact HMS.out
      by_cases h2 : kd = 2
      · have HS : Hid (stepI si ⟨kd, ln, ix, k, c, p, d, v, fi⟩ = (stM si ln ix).1) := by show _ = _; unfold stepI; simp [h2]
        rw [HS.out] at HR
        subst h2
        clear HS
        go_wp2_with (first
          | (go_at_call 21; refine HM.out.mono ?_; rintro e w4 ⟨rfl, q1, q2⟩; have Q1 := Lib.hid q1; have Q2 := Lib.hid q2; clear q1 q2))
        go_roundw
        case rel => exact ⟨i + 1, by push_cast; rfl, HI1.out, by rw [HR.out]; exact Q1.out, HF3.out.trans Q2.out⟩
        case measure => exact HMS.out
      by_cases h3 : kd = 3
      · have HS : Hid (stepI si ⟨kd, ln, ix, k, c, p, d, v, fi⟩ = (stU si ln ix).1) := by show _ = _; unfold stepI; simp [h3]
        rw [HS.out] at HR
        subst h3
        clear HS
        go_wp2_with (first
          | (go_at_call 23; refine HU.out.mono ?_; rintro e w4 ⟨rfl, q1, q2⟩; have Q1 := Lib.hid q1; have Q2 := Lib.hid q2; clear q1 q2))
        go_roundw
        case rel => exact ⟨i + 1, by push_cast; rfl, HI1.out, by rw [HR.out]; exact Q1.out, HF3.out.trans Q2.out⟩
        case measure => exact HMS.out
      by_cases h4 : kd = 4
      · have HS : Hid (stepI si ⟨kd, ln, ix, k, c, p, d, v, fi⟩ = (stR si ln).1) := by show _ = _; unfold stepI; simp [h4]
        rw [HS.out] at HR
        subst h4
        clear HS
        go_wp2_with (first
          | (go_at_call 22; refine HRS.out.mono ?_; rintro e w4 ⟨rfl, q1, q2⟩; have Q1 := Lib.hid q1; have Q2 := Lib.hid q2; clear q1 q2))
        go_roundw
        case rel => exact ⟨i + 1, by push_cast; rfl, HI1.out, by rw [HR.out]; exact Q1.out, HF3.out.trans Q2.out⟩
        case measure => exact HMS.out
      by_cases h5 : kd = 5
      · have HS : Hid (stepI si ⟨kd, ln, ix, k, c, p, d, v, fi⟩ = stV si) := by show _ = _; unfold stepI; simp [h5]
        rw [HS.out] at HR
        subst h5
        clear HS
        go_wp2_with (first
          | (go_at_call 20; refine HD.out.mono ?_; rintro e w4 ⟨v4, rfl, q1, _, q2⟩; have Q1 := Lib.hid q1; have Q2 := Lib.hid q2; clear q1 q2))
        go_roundw
        case rel => exact ⟨i + 1, by push_cast; rfl, HI1.out, by rw [HR.out]; exact Q1.out, HF3.out.trans Q2.out⟩
        case measure => exact HMS.out
      have HS : Hid (stepI si ⟨kd, ln, ix, k, c, p, d, v, fi⟩ = si) := by show _ = _; unfold stepI; simp [h0, h1, h2, h3, h4, h5]
      rw [HS.out] at HR
      have e0 : (kd == 0) = false := by simpa using h0
      have e1 : (kd == 1) = false := by simpa using h1
      have e2 : (kd == 2) = false := by simpa using h2
      have e3 : (kd == 3) = false := by simpa using h3
      have e4 : (kd == 4) = false := by simpa using h4
      have e5 : (kd == 5) = false := by simpa using h5
      clear h0 h1 h2 h3 h4 h5 HS
      go_wp2
      go_roundw
      case rel => exact ⟨i + 1, by push_cast; rfl, HI1.out, by rw [HR.out]; exact HC3.out, HF3.out⟩
      case measure => exact HMS.out
    · have hile : i = P.length := by have := HI.out.1; omega
      have i1 : ¬ (i : Int) < (P.length : Nat) := by omega
      have HE := HI.out.2
      rw [hile, List.take_length] at HE
      have HX := Lib.hid HE
      clear hi HE
      subst hile
      go_wp2
      go_end0
      exact ⟨rfl, HX.out.1, HX.out.2⟩
end Go.Proofs.Ytbnchmhhhildnaa
