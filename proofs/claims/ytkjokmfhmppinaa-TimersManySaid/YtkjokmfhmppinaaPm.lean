/- Timers: Drop. -/
import Derived.Test.YtkjokmfhmppinaaPd
namespace Go.Proofs.Ytkjokmfhmppinaa
open Go.RowKit Go.Maps
set_option linter.unusedVariables false

/-- The timers of other owners. -/
def dropO (o : Int) (l : TS) : TS := l.filter fun p => !(p.2.o == o)
/-- The timers behind some rounds. -/
def fl (o : Int) (left : Lit → Bool) (l : TS) : TS := l.filter fun p => left (kl p.1) || !(p.2.o == o)
theorem fl_start {o : Int} {l : TS} (hs : SortedT l) : fl o (Maps.has (Dof l)) l = l :=
  List.filter_eq_self.2 fun p hp => by
    rw [dhas, get_of_mem (x := p.1) (t := p.2) hs hp]; rfl
theorem fl_end {o : Int} {left : Lit → Bool} {l : TS} (h : ∀ k, left k = false) : fl o left l = dropO o l :=
  List.filter_congr fun p _ => by rw [h]; rfl
theorem fl_mem {o : Int} {left : Lit → Bool} {l : TS} (hs : SortedT l) {x : Int} {t : Tm} (hg : get (fl o left l) x = some t) {p : Int × Tm} (hp : p ∈ l) (e : p.1 = x) : p.2 = t := by
  have h1 := get_of_mem (x := x) (t := t) hs (List.mem_filter.1 (get_mem hg)).1
  have h2 := get_of_mem (x := p.1) (t := p.2) hs hp
  rw [e, h1] at h2
  cases h2; rfl
theorem fl_keep {o : Int} {left : Lit → Bool} {l : TS} (hs : SortedT l) {x : Int} {t : Tm} (hg : get (fl o left l) x = some t) (ho : (t.o == o) = false) : fl o (fun z => left z && !z.sameKey (kl x)) l = fl o left l :=
  List.filter_congr fun p hp => by
    by_cases e : p.1 = x
    · simp [fl_mem hs hg hp e, ho]
    · have e2 : (p.1 == x) = false := beq_eq_false_iff_ne.2 e
      simp only [same_kl, e2, Bool.not_false, Bool.and_true]
theorem fl_strike {o : Int} {left : Lit → Bool} {l : TS} (hs : SortedT l) {x : Int} {t : Tm} (hg : get (fl o left l) x = some t) (ho : (t.o == o) = true) : del x (fl o left l) = fl o (fun z => left z && !z.sameKey (kl x)) l := by
  unfold del fl
  rw [List.filter_filter]
  refine List.filter_congr fun p hp => ?_
  by_cases e : p.1 = x
  · simp [fl_mem hs hg hp e, ho, same_kl, e]
  · have e2 : (p.1 == x) = false := beq_eq_false_iff_ne.2 e
    simp only [same_kl, e2, Bool.not_false, Bool.and_true, Bool.true_and]
set_option maxRecDepth 100000 in
set_option maxHeartbeats 1000000 in
/-- Has the timer this owner? -/
theorem isowner_any {W : World} {Z : Nat} {o : Int} (x : Int) (t : Tm) (hz : W.cell? ⟨Z, 0, none⟩ = some (.int .i64 o)) (hlt : Z < W.heap.size) : Calls Try.prog 44 #[.int .i64 x, tmE t, .pointer (some ⟨Z, 0, none⟩)] W fun e w' => e = .returned (.bool (t.o == o)) ∧ Fr No W w' := by
  have HF : Hid (Fr No W (W.alloc (.cells (tcs t) 81))) := Fr.alloc _ _ _
  have HX := Lib.hid (RowAt.new W 81 (tcs t))
  have HC : Hid ((W.alloc (.cells (tcs t) 81)).cell? ⟨Z, 0, none⟩ = some (.int .i64 o)) := (World.cell?_of_block (HF.out.block Z hlt id)).trans hz
  clear hz hlt
  unfold tcs at HF HX HC
  unfold tmE
  go_enter Try.func44, Try.ntmps44
  go_upto_region 1 with (fail)
  generalize W.alloc _ = w1 at HF HX HC ⊢
  generalize W.heap.size = Y at HX ⊢
  have c0 : w1.cell? ⟨Y, 0, none⟩ = some (.int .i64 t.o) := HX.out.cell 0
  have c1 : w1.cell? ⟨Z, 0, none⟩ = some (.int .i64 o) := HC.out
  go_wp2
  go_ret
  exact ⟨rfl, HF.out⟩
set_option maxRecDepth 100000 in
set_option maxHeartbeats 4000000 in
/-- maps.DeleteFunc of the timers of an owner. -/
theorem delfunc_ok {W : World} {b Z : Nat} {l : TS} {o : Int} (hs : SortedT l) (h : TM W b l) (hz : W.cell? ⟨Z, 0, none⟩ = some (.int .i64 o)) (hlt : Z < W.heap.size) (hne : Z ≠ b) : Calls Try.prog 43 #[.map (some b), .func (.func 44) #[] #[.pointer (some ⟨Z, 0, none⟩)]] W fun e w' => e = .returned (.tuple #[]) ∧ TM w' b (dropO o l) ∧ Fr (fun k => k = b) W w' := by
  have HM := Lib.hid h
  have HS := Lib.hid hs
  have HZ := Lib.hid hz
  have HLT := Lib.hid hlt
  have HNE := Lib.hid hne
  clear h hs hz hlt hne
  go_enter Try.func43, Try.ntmps43
  go_wp2_with (at_range; refine wpList_range_own _ rfl _ 65 rfl 3 81 keyedI Try.underlying65 tmR b l.length _ rfl HM.out ?_; intro w0 hrg0 hg0 hs0)
  go_frame
  have HRG0 := Lib.hid hrg0
  have HF0 : Hid (Fr No W w0) := Fr.grown hg0 (fun k e => by cases e)
  clear hrg0 hg0 hs0
  generalize hr : W.heap.size = r at HRG0 ⊢
  have HR := Lib.hid hr
  clear hr
  have HBW : Hid (b < W.heap.size) := HM.out.lt
  go_loopw [8] (fun _ wr => ∃ (left : Lit → Bool) (cnt : Nat), Hid (wr.ranges Try.prog 3 tmR b r l.length (Dof (fl o left l)) left cnt ∧ Fr (fun k => k = b) W wr)) (fun _ wr => wr.rangeLeft b r)
  case atStart => exact ⟨_, _, by rw [fl_start HS.out]; exact HRG0.out, HF0.out.any⟩
  case round =>
    obtain ⟨left, cnt, HI⟩ := hrel
    have HRG := Lib.hid HI.out.1
    go_wp2_with (at_next; refine wpList_nextT rfl _ rfl b r l.length (fl o left l) _ _ rfl HRG.out ?_ ?_)
    · intro hl0
      have HV := Lib.hid (fl_end (o := o) (l := l) hl0)
      go_wp2
      go_end0
      exact ⟨rfl, by rw [← HV.out]; exact tight HI.out.1.owns, HI.out.2⟩
    · intro x t w1 cnt1 hwx hlx hg hrg1 hlt hf1 hen
      have HG := Lib.hid hg
      have HW := Lib.hid hwx
      have HF1 : Hid (Fr (fun k => k = b) W w1) := HI.out.2.over hf1 (fun k e => .inr (by subst e; rw [HR.out]; exact Nat.le_refl _))
      have HRG1 := Lib.hid hrg1
      have HMS : Hid (cnt1 < wr.rangeLeft b r) := by show _ < _; rw [HRG.out.left_eq]; exact hlt
      clear hwx hlx hg hrg1 hlt hf1
      unfold tmE at hen ⊢
      have HFX : Hid (Fr No w1 (w1.alloc (.cells (tcs t) 81))) := Fr.alloc _ _ _
      have HX := Lib.hid (RowAt.new w1 81 (tcs t))
      go_upto_region 3 with (first
        | ((with_reducible refine st_gate ?_); refine wpList_store_row rfl 81 (Operand.tmp 5) (Operand.tmp 12) rfl w1.heap.size (tcs t) rfl rfl _ (tcs tz) (RowAt.new w1 _ _) (tcs_size t) rfl (tcs_one t) ?_; rw [World.setRow_alloc_new]))
      clear hen
      generalize World.alloc w1 _ = W2 at HX HFX ⊢
      generalize w1.heap.size = X at HX ⊢
      have HF2 : Hid (Fr (fun k => k = b) W W2) := HF1.out.trans HFX.out.any
      have HRK : Hid (∀ w, Fr No W2 w → w.ranges Try.prog 3 tmR b r l.length (Dof (fl o left l)) (fun z => left z && !z.sameKey (kl x)) cnt1) := fun w f => HRG1.out.kept (row := none) ⟨f.os.trans HFX.out.os, f.tape.trans HFX.out.tape, f.output.trans HFX.out.output, Nat.le_trans HFX.out.size f.size, fun i hi _ => (f.block i (Nat.lt_of_lt_of_le hi HFX.out.size) id).trans (HFX.out.block i hi id)⟩ (by simp) (by simp)
      have HC2 : Hid (Calls Try.prog 44 #[.int .i64 x, .agg (tcs t), .pointer (some ⟨Z, 0, none⟩)] W2 fun e w' => e = .returned (.bool (t.o == o)) ∧ Fr No W2 w') := isowner_any x t ((World.cell?_of_block (HF2.out.block Z HLT.out HNE.out)).trans HZ.out) (Nat.lt_of_lt_of_le HLT.out HF2.out.size)
      clear HRG1 HF1 HFX HRG
      have HXR : Hid (∀ w, Fr No W2 w → w.rangeAt X 0 (tcs t).toList) := fun w f => (HX.out.fr f id).range
      unfold tcs at HC2 HXR
      cases ho : (t.o == o)
      · rw [ho] at HC2
        have HK := Lib.hid (fl_keep HS.out HG.out ho)
        clear ho
        go_wp2_with (first
          | ((with_reducible refine ld_gate ?_); refine wpList_load_mid rfl 81 (Operand.tmp 5) rfl X 0 rfl [_, _, _, _, _, _, _, _, _] _ (HXR.out _ (Fr.refl _ _)) Try.underlying81 rfl size_timer ?_; go_frame)
          | (go_at_call 44; refine HC2.out.mono ?_; rintro e w3 ⟨rfl, f3⟩; have F3 := Lib.hid f3; clear f3)
          | (go_at_fn 44; refine HC2.out.mono ?_; rintro e w3 ⟨rfl, f3⟩; have F3 := Lib.hid f3; clear f3))
        exact ⟨⟨_, cnt1, by rw [HK.out]; exact HRK.out _ F3.out, HF2.out.trans F3.out.any⟩, by rw [(HRK.out _ F3.out).left_eq]; exact HMS.out⟩
      · rw [ho] at HC2
        have HK := Lib.hid (fl_strike HS.out HG.out ho)
        clear ho
        go_wp2_with (first
          | ((with_reducible refine ld_gate ?_); refine wpList_load_mid rfl 81 (Operand.tmp 5) rfl X 0 rfl [_, _, _, _, _, _, _, _, _] _ (HXR.out _ (Fr.refl _ _)) Try.underlying81 rfl size_timer ?_; go_frame)
          | (go_at_call 44; refine HC2.out.mono ?_; rintro e w3 ⟨rfl, f3⟩; have F3 := Lib.hid f3; clear f3)
          | (go_at_fn 44; refine HC2.out.mono ?_; rintro e w3 ⟨rfl, f3⟩; have F3 := Lib.hid f3; clear f3)
          | (at_delete; refine wpList_delete_ranges _ rfl _ _ 65 3 rfl 81 keyedI Try.underlying65 tmR b r l.length _ _ _ rfl (HRK.out _ F3.out) _ _ rfl (key6 HW.out) ?_; intro w4 cnt4 hrg4 hle hturn; have HRG4 := Lib.hid hrg4; have HLE := Lib.hid hle; have HTU : Hid (Fr (fun k => k = b) w3 w4) := Fr.grown hturn.grown (fun k e => by cases e; rfl); clear hrg4 hle hturn; go_frame))
        go_roundw
        case rel => exact ⟨_, cnt4, by have := HRG4.out; rw [ddel, HK.out, strike_twice] at this; exact this, HF2.out.trans (F3.out.any.trans HTU.out)⟩
        case measure => rw [HRG4.out.left_eq]; exact Nat.lt_of_le_of_lt HLE.out HMS.out
set_option maxRecDepth 100000 in
set_option maxHeartbeats 2000000 in
theorem drop_ok {W : World} {B b : Nat} {l : TS} {c : Int} (h : TQ W B b l c) (o : Int) : Calls Try.prog 20 #[.pointer (some ⟨B, 0, none⟩), .int .i64 o] W fun e w' => e = .returned (.int .i64 ((l.length : Int) - (dropO o l).length)) ∧ TQ w' B b (dropO o l) c ∧ Fr (fun k => k = b) W w' := by
  have HF : Hid (Fr No W (W.alloc (.cells #[.int .i64 o] 3))) := Fr.alloc _ _ _
  have HX := Lib.hid (RowAt.new W 3 #[.int .i64 o])
  have HQ := Lib.hid (h.no HF.out)
  have HNB : Hid (W.heap.size ≠ b ∧ b ≠ B) := ⟨by have := h.map.lt; omega, h.ne⟩
  have HSR := Lib.hid h.sorted
  have hl1 : (l.length : Int) ≤ 1000 := by have := h.len; omega
  have hl0 : ((dropO o l).length : Int) ≤ l.length := by have := List.length_filter_le (fun p : Int × Tm => !(p.2.o == o)) l; show ((List.filter _ l).length : Int) ≤ _; omega
  have HLEN := Lib.hid h.len
  have HKEY := Lib.hid h.key
  clear h
  go_enter Try.func20, Try.ntmps20
  go_upto_region 1 with (fail)
  generalize W.alloc _ = w1 at HF HX HQ ⊢
  generalize W.heap.size = Z at HX HNB ⊢
  have c0 : w1.cell? ⟨B, 0, none⟩ = some (.map (some b)) := HQ.out.row.cell 0
  have HLN := HQ.out.map.len
  have HDF := Lib.hid (delfunc_ok (o := o) HSR.out HQ.out.map (HX.out.cell 0) HX.out.lt HNB.out.1)
  have HLN2 : Hid (∀ w2 ty, TM w2 b (dropO o l) → (Builtin.len_ #[65] ty #[.map (some b)]).run Try.prog w2 = .ok (.int .i64 ((dropO o l).length : Nat)) w2) := fun w2 ty m => m.len ty
  generalize hdl : (dropO o l).length = dn at HLN2 hl0 ⊢
  go_wp2_with (first
    | (go_at_call 34; refine (ismade_ok HQ.out).mono ?_; rintro e w2 ⟨rfl, f2⟩; subst f2)
    | (go_at_call 43; refine HDF.out.mono ?_; rintro e w3 ⟨rfl, m3, f3⟩; have HM3 := Lib.hid m3; have F3 := Lib.hid f3; have c3 : w3.cell? ⟨B, 0, none⟩ = some (.map (some b)) := (HQ.out.row.fr F3.out (fun e => HNB.out.2 e.symm)).cell 0; have HLN3 := fun ty => HLN2.out w3 ty HM3.out; clear m3 f3))
  go_ret
  refine ⟨by rw [hdl]; rfl, ⟨HQ.out.row.fr F3.out (fun e => HNB.out.2 e.symm), HM3.out, HSR.out.filter _, Nat.le_trans (List.length_filter_le _ _) HLEN.out, fun p hp => HKEY.out p (List.mem_filter.1 hp).1⟩, HF.out.any.trans F3.out⟩
end Go.Proofs.Ytkjokmfhmppinaa
