/- Interrupts: InterruptsMasked's walk. -/
import Derived.Test.YtbnchmhhhildnaaXzj
namespace Go.Proofs.Ytbnchmhhhildnaa
open Go.RowKit Go.Maps
set_option linter.unusedVariables false

set_option maxRecDepth 100000 in
set_option maxHeartbeats 4000000 in
theorem masked_not {W : World} (ln : Int) (a : Option Addr) (n cap : Nat) (h : okL ln n = false) : Calls Try.prog 5 #[.int .i64 ln, .slice a n cap] W fun e w' => e = .returned (.bool true) ∧ Fr No W w' := by
  have HN := Lib.hid new8
  have fin : True := trivial
  by_cases h1 : 40 < n
  · have d1 : decide (40 < (n : Int)) = true := by simp; omega
    clear h h1
    go_enter Try.func5, Try.ntmps5
    go_wp2_with (first
      | (go_at_call 10; refine (HN.out _).mono ?_; rintro e w1 ⟨B, rfl, cs, q1, q2, q3⟩; have F1 := Lib.hid q3; clear q1 q2 q3)
      | (go_at_call 9; refine (awake_any _).mono ?_; rintro e w2 ⟨rfl, q⟩; have F2 := Lib.hid (F1.out.trans q); clear q))
    go_ret
    exact ⟨rfl, F2.out⟩
  have d1 : decide (40 < (n : Int)) = false := by simp; omega
  by_cases h2 : ln < 0
  · have d2 : decide (ln < 0) = true := by simpa using h2
    clear h h1 h2
    go_enter Try.func5, Try.ntmps5
    go_wp2_with (first
      | (go_at_call 10; refine (HN.out _).mono ?_; rintro e w1 ⟨B, rfl, cs, q1, q2, q3⟩; have F1 := Lib.hid q3; clear q1 q2 q3)
      | (go_at_call 9; refine (awake_any _).mono ?_; rintro e w2 ⟨rfl, q⟩; have F2 := Lib.hid (F1.out.trans q); clear q))
    go_ret
    exact ⟨rfl, F2.out⟩
  have d2 : decide (ln < 0) = false := by simpa using h2
  have d3 : decide (8 ≤ ln) = true := by
    simp [okL] at h
    simp
    omega
  clear h h1 h2
  go_enter Try.func5, Try.ntmps5
  go_wp2_with (first
    | (go_at_call 10; refine (HN.out _).mono ?_; rintro e w1 ⟨B, rfl, cs, q1, q2, q3⟩; have F1 := Lib.hid q3; clear q1 q2 q3)
    | (go_at_call 9; refine (awake_any _).mono ?_; rintro e w2 ⟨rfl, q⟩; have F2 := Lib.hid (F1.out.trans q); clear q))
  go_ret
  exact ⟨rfl, F2.out⟩
theorem dsE_get : ∀ (l : List Dv) (i q : Nat) (d : Dv), l[i]? = some d → q < 9 → (dsE l)[i * 9 + q]? = (dE d)[q]?
  | a :: r, 0, q, d, h, hq => by
    cases h
    unfold dsE
    rw [List.flatMap_cons, Nat.zero_mul, Nat.zero_add, List.getElem?_append_left (by exact hq)]
  | a :: r, i + 1, q, d, h, hq => by
    unfold dsE
    rw [List.flatMap_cons, List.getElem?_append_right (by show 9 ≤ _; omega)]
    have : (i + 1) * 9 + q - (dE a).length = i * 9 + q := by show (i + 1) * 9 + q - 9 = _; omega
    rw [this]
    exact dsE_get r i q d h hq
theorem ds_range {W : World} {lo g n cap : Nat} {ds : List Dv} (h : W.ownsRow lo 50 9 (.slice (some ⟨g, 0, none⟩) n cap) n (dsE ds)) {i : Nat} {d : Dv} (hi : ds[i]? = some d) : W.rangeAt g (i * 9) (dE d) := fun q u hu => by
  have hq : q < 9 := (List.getElem?_eq_some_iff.1 hu).1
  exact own_cells h (by rw [dsE_get ds i q d hi hq]; exact hu)
theorem atts_nil {n : Int} {ds : List Dv} (h : atts n ds = []) {d : Dv} (hd : d ∈ ds) : d.n ≠ n := fun e => by
  unfold atts at h
  have : d ∈ ds.filter (fun d => d.n == n) := List.mem_filter.2 ⟨hd, by simpa using e⟩
  rw [List.map_eq_nil_iff.1 h] at this
  cases this
theorem atts_take {n : Int} {ds : List Dv} {i : Nat} {d : Dv} (h : ds[i]? = some d) : atts n (ds.take (i + 1)) = atts n (ds.take i) ++ (if d.n = n then [d.a] else []) := by
  rw [List.take_add_one, h, atts_app]
  congr 1
  unfold atts
  by_cases e : d.n = n <;> simp [e]
theorem setLs_get {s : IS} {n : Nat} {l l' : IL} (h : s.ls[n]? = some l) : (setLs s n l').ls[n]? = some l' := by
  show (s.ls.set n l')[n]? = _
  rw [List.getElem?_set_self (List.getElem?_eq_some_iff.1 h).1]
theorem size_dv : (Try.prog.info? 50).map (·.size) = some 9 := by kernel_rfl
def dvc (a n t k c p d v : Int) (w : Bool) : Array Value := #[.int .i64 a, .int .i64 n, .int .i64 t, .int .i64 k, .int .i64 c, .int .i64 p, .int .i64 d, .int .i64 v, .bool w]
theorem dvc_one (a n t k c p d v : Int) (w : Bool) : (dvc a n t k c p d v w).all (·.oneCell') = true := by simp [dvc, Value.oneCell']
set_option maxRecDepth 100000 in
set_option maxHeartbeats 8000000 in
theorem masked_ok {W : World} {ln : Nat} {a : Option Addr} {P : List OpR} (cap : Nat) (h8 : ln < 8) (hl : P.length ≤ 40) (hP : OpsIn W a P) : Calls Try.prog 5 #[.int .i64 (ln : Int), .slice a P.length cap] W fun e w' => e = .returned (.bool true) ∧ Fr No W w' := by
  have HN := Lib.hid new8
  have HP := Lib.hid hP
  have HL := Lib.hid hl
  have d1 : decide (40 < (P.length : Int)) = false := by simp; omega
  have d2 : decide ((ln : Int) < 0) = false := by simp
  have d3 : decide (8 ≤ (ln : Int)) = false := by simp; omega
  have H8 := Lib.hid h8
  clear hl hP h8
  go_enter Try.func5, Try.ntmps5
  go_upto_region 4 with (go_at_call 10; refine (HN.out _).mono ?_; rintro e w1 ⟨B, rfl, cs, q1, q2, q3⟩; have HCS := Lib.hid q1; have C1 := Lib.hid q2; have F1 := Lib.hid q3; clear q1 q2 q3)
  clear d1 d2 d3
  have HK0 : Hid (IOk (newS cs)) := newS_ok (by rw [HCS.out]; omega) (by rw [HCS.out]; omega)
  have HRUN := Lib.hid (run_ce cap C1.out HK0.out F1.out.size (HP.out.fr F1.out (fun _ _ _ _ _ => id)) (fun hne b off e hb hh => by
    rcases HP.out.1 with e2 | ⟨b2, off2, e2, hb2, _⟩
    · exact hne e2
    · rw [e] at e2; cases e2
      rcases hh with hh | hh
      · exact hh
      · omega) HL.out)
  have HK1 := Lib.hid (runS_ok HK0.out P)
  have HC0 : Hid ((runS (newS cs) P).cn ((ln : Int), -1) ≤ 40) := by
    have h1 := runS_own HK0.out (ln : Int) P
    have h2 : (newS cs).cn ((ln : Int), -1) = 0 := rfl
    have := HL.out
    show _ ≤ _
    omega
  have HLEN : Hid ((runS (newS cs) P).ls.length = 8) := by show _ = _; rw [runS_len HK0.out, newS_len, HCS.out]
  generalize runS (newS cs) P = s1 at HRUN HK1 HC0 HLEN
  have HFT : Hid (∀ w w', Fr No W w → Fr (Ft No W.heap.size) w w' → Fr No W w') := fun w w' f g => f.thenN g
  go_upto_region 5 with (go_at_call 19; refine HRUN.out.mono ?_; rintro e w2 ⟨rfl, q1, q2⟩; have C2 := Lib.hid q1; have F2 := Lib.hid (HFT.out _ _ F1.out q2); clear q1 q2)
  have HD1 := Lib.hid (deliver_ce C2.out HK1.out)
  have HK2 := Lib.hid (stV_ok HK1.out)
  have HC2 : Hid ((stV s1).cn ((ln : Int), -1) ≤ 40 ∧ (stV s1).ls.length = 8) := ⟨by show (dA s1 _).1.cn _ ≤ _; rw [dA_own HK1.out]; exact HC0.out, by show (dA s1 _).1.ls.length = _; rw [dA_len, HLEN.out]⟩
  change Hid (Calls _ _ _ _ fun e w' => ∃ v, e = .returned v ∧ CE No W.heap.size w' B (stV s1) ∧ _) at HD1
  go_upto_region 6 with (go_at_call 20; refine HD1.out.mono ?_; rintro e w3 ⟨v3, rfl, q1, _, q2⟩; have C3 := Lib.hid q1; have F3 := Lib.hid (HFT.out _ _ F2.out q2); clear q1 q2)
  clear HD1
  generalize stV s1 = s2 at HK2 HC2 C3
  obtain ⟨l2, hl2⟩ : ∃ l, s2.ls[ln]? = some l := ⟨_, List.getElem?_eq_getElem (by rw [HC2.out.2]; exact H8.out)⟩
  have HL2 := Lib.hid hl2
  have hm := mask_ce C3.out HK2.out (ln : Int) (-1)
  have h20 := HK2.out.c0 ((ln : Int), -1)
  have hst := stM_own HK2.out hl2 (j := 0) (by have := HC2.out.1; omega)
  rw [mS_zero] at hst
  rw [hst] at hm
  have HM := Lib.hid hm
  have HS5 : Hid (∃ s5 l5, s5 = setLs (setLs (mS s2 ln (0 + 1)) ln { l2 with p := true }) ln { l2 with p := true } ∧ s5.ls.length = 8 ∧ IOk s5 ∧ s5.ls[ln]? = some l5 ∧ l5.p = true ∧ 0 < sumI s5 ln ∧ 0 < s5.cn ((ln : Int), -1)) := by
    have k3 : IOk (mS s2 ln (0 + 1)) := mS_ok HK2.out hl2 (by omega) (by have := HC2.out.1; omega)
    have l3 : (mS s2 ln (0 + 1)).ls[ln]? = some l2 := hl2
    have k4 := k3.setL l3 (l' := { l2 with p := true }) rfl
    have l4 : (setLs (mS s2 ln (0 + 1)) ln { l2 with p := true }).ls[ln]? = some { l2 with p := true } := setLs_get l3
    have k5 := k4.setL l4 (l' := { l2 with p := true }) rfl
    have l5 : (setLs (setLs (mS s2 ln (0 + 1)) ln { l2 with p := true }) ln { l2 with p := true }).ls[ln]? = some { l2 with p := true } := setLs_get l4
    refine ⟨_, _, rfl, by show (List.set (List.set _ _ _) _ _).length = 8; rw [List.length_set, List.length_set]; exact HC2.out.2, k5, l5, rfl, ?_, ?_⟩
    · have e : sumI (setLs (setLs (mS s2 ln (0 + 1)) ln { l2 with p := true }) ln { l2 with p := true }) ln = sumI (mS s2 ln (0 + 1)) ln := sumI_eq l5 l3 rfl (fun _ => rfl)
      rw [e, mS_sum HK2.out hl2]
      have := (sumI_bd HK2.out hl2).1
      omega
    · show 0 < (mS s2 ln (0 + 1)).cn _
      rw [mS_cn]; omega
  have HR1 : Hid (∀ w, CE No W.heap.size w B (mS s2 ln (0 + 1)) → Calls Try.prog 22 #[.pointer (some ⟨B, 0, none⟩), .int .i64 (ln : Int)] w fun e w' => e = .returned (.tuple #[.bool l2.p, .int .i64 0]) ∧ CE No W.heap.size w' B (setLs (mS s2 ln (0 + 1)) ln { l2 with p := true }) ∧ Fr (Ft No W.heap.size) w w') := fun w hc =>
    raise_ce hc (mS_ok HK2.out HL2.out (by have := HK2.out.c0 ((ln : Int), -1); omega) (by have := HC2.out.1; omega)) HL2.out
  have HR2 : Hid (∀ w, CE No W.heap.size w B (setLs (mS s2 ln (0 + 1)) ln { l2 with p := true }) → Calls Try.prog 22 #[.pointer (some ⟨B, 0, none⟩), .int .i64 (ln : Int)] w fun e w' => e = .returned (.tuple #[.bool true, .int .i64 0]) ∧ CE No W.heap.size w' B (setLs (setLs (mS s2 ln (0 + 1)) ln { l2 with p := true }) ln { l2 with p := true }) ∧ Fr (Ft No W.heap.size) w w') := fun w hc => by
    have k3 : IOk (mS s2 ln (0 + 1)) := mS_ok HK2.out HL2.out (by have := HK2.out.c0 ((ln : Int), -1); omega) (by have := HC2.out.1; omega)
    have l3 : (mS s2 ln (0 + 1)).ls[ln]? = some l2 := HL2.out
    exact raise_ce hc (k3.setL l3 (l' := { l2 with p := true }) rfl) (l := { l2 with p := true }) (setLs_get l3)
  clear hm hst hl2 h20
  go_upto_region 9 with (go_at_call 21; refine HM.out.mono ?_; rintro e w4 ⟨rfl, q1, q2⟩; have C4 := Lib.hid q1; have F4 := Lib.hid (HFT.out _ _ F3.out q2); clear q1 q2)
  clear HM
  go_upto_region 10 with (go_at_call 22; refine (HR1.out _ C4.out).mono ?_; rintro e w5 ⟨rfl, q1, q2⟩; have C5 := Lib.hid q1; have F5 := Lib.hid (HFT.out _ _ F4.out q2); clear q1 q2)
  go_upto_region 11 with (go_at_call 22; refine (HR2.out _ C5.out).mono ?_; rintro e w6 ⟨rfl, q1, q2⟩; have C6 := Lib.hid q1; have F6 := Lib.hid (HFT.out _ _ F5.out q2); clear q1 q2)
  obtain ⟨s5, l5, hs5, l58, K5, L5, p5, z5, c5⟩ := HS5.out
  have HS58 := Lib.hid l58
  clear l58
  rw [← hs5] at C6
  clear HS5 HR1 HR2 hs5 C5 C4
  have MS := Lib.hid (masked_states K5 L5 p5 z5 c5)
  have K5 := Lib.hid K5
  have L5 := Lib.hid L5
  have Z5 := Lib.hid z5
  clear p5 z5 c5
  have HD2 := Lib.hid (deliver_ce C6.out K5.out)
  have HCNT : Hid (∀ s, IOk s → s.ls.length = 8 → (dA s s.ls.length).2.length ≤ 800) := fun s k e => by have := dA_count k s.ls.length; rw [e] at this ⊢; omega
  have HL5 : Hid (s5.ls.length = 8) := HS58.out
  have HC5 := Lib.hid (HCNT.out s5 K5.out HL5.out)
  generalize hds : (dA s5 s5.ls.length).2 = ds at HD2 MS HC5
  clear hds
  go_wp2_with (go_at_call 20; refine HD2.out.mono ?_; rintro e w7 ⟨v7, rfl, q1, q3, q2⟩; obtain ⟨a7, c7, rfl⟩ := own_shape q3; have C7 := Lib.hid q1; have OW7 := Lib.hid q3; have F7 := Lib.hid (HFT.out _ _ F6.out q2); clear q1 q2 q3)
  clear HD2
  change Hid (CE No W.heap.size w7 B (stV s5)) at C7
  go_loopw [10, 64] (fun v10 vi wr => ∃ i : Nat, vi = .int .i64 i ∧ Hid (i ≤ ds.length ∧ Fr No w7 wr)) (fun _ vi _ => ds.length - (intOf vi).toNat)
  case atStart => exact ⟨0, rfl, Nat.zero_le _, Fr.refl _ _⟩
  case round =>
    obtain ⟨i, rfl, HI⟩ := hrel
    have i0 : (0 : Int) ≤ i := by omega
    have i2 : (i : Int) ≤ 1000 := by have := HI.out.1; have := HC5.out; omega
    by_cases hi : i < ds.length
    · have i1 : (i : Int) < (ds.length : Nat) := by omega
      have hd := List.getElem?_eq_getElem hi
      generalize ds[i] = d at hd
      have hne := atts_nil MS.out.1 (List.mem_of_getElem? hd)
      obtain ⟨g, cap2, e⟩ := own_slice2 OW7.out (by omega)
      cases e
      have HRA := Lib.hid (ds_range (own_fr2 OW7.out HI.out.2 (fun _ _ => id)) hd)
      have HFW := Lib.hid HI.out.2
      have HI1 : Hid (i + 1 ≤ ds.length) := hi
      have HMS : Hid (ds.length - (intOf (Value.int IntKind.i64 ((i : Int) + 1))).toNat < ds.length - (intOf (Value.int IntKind.i64 (i : Int))).toNat) := by
        show _ < _
        simp only [intOf]
        omega
      obtain ⟨da, dn, dt, dk, dc, dp, dd, dv, dw⟩ := d
      have hne1 : (dn == (ln : Int)) = false := by simpa using hne
      clear hi HI hd hne
      unfold dE at HRA
      go_upto_region 14 with (first
        | ((with_reducible refine ld_gate ?_); refine wpList_load_mid rfl 50 (Operand.tmp 66) rfl g (i * 9) rfl [_, _, _, _, _, _, _, _, _] _ HRA.out Try.underlying50 rfl size_dv ?_; go_frame)
        | ((with_reducible refine st_gate ?_); refine wpList_store_row rfl 50 (Operand.tmp 10) (Operand.tmp 67) rfl wr.heap.size (dvc da dn dt dk dc dp dd dv dw) rfl rfl _ (dvc 0 0 0 0 0 0 0 0 false) (RowAt.new wr _ _) size_dv rfl (dvc_one _ _ _ _ _ _ _ _ _) ?_; rw [World.setRow_alloc_new]))
      have HX0 := Lib.hid (RowAt.new wr 50 (dvc da dn dt dk dc dp dd dv dw))
      have HF0 : Hid (Fr No wr (wr.alloc (.cells (dvc da dn dt dk dc dp dd dv dw) 50))) := Fr.alloc _ _ _
      generalize World.alloc wr _ = W3 at HX0 HF0 ⊢
      generalize wr.heap.size = X at HX0 ⊢
      have x1 : W3.cell? ⟨X, 1, none⟩ = some (.int .i64 dn) := HX0.out.cell 1
      go_wp2
      go_roundw
      case rel => exact ⟨i + 1, by push_cast; rfl, HI1.out, HFW.out.trans HF0.out⟩
      case measure => exact HMS.out
    · have i1 : ¬ (i : Int) < (ds.length : Nat) := by omega
      have F8 := Lib.hid (F7.out.trans HI.out.2)
      have C8 := Lib.hid (C7.out.no HI.out.2)
      clear hi HI i0 i2
      have hu := unmask_ce C8.out (stV_ok K5.out) (ln : Int) (-1)
      rw [MS.out.2.2.1] at hu
      have HU := Lib.hid hu
      clear hu
      have HSP : Hid (∀ w, CE No W.heap.size w B (mS (stV s5) ln (-1)) → Calls Try.prog 15 #[.pointer (some ⟨B, 0, none⟩), .int .i64 (ln : Int)] w fun e w' => e = .returned (.tuple #[.int .i64 l5.s, .int .i64 0]) ∧ w = w') := fun w hc => by
        have := spur_ce hc MS.out.2.2.2.1 (ln : Int)
        rw [ckL_nat MS.out.2.2.2.2.1, if_pos rfl, spI_nat MS.out.2.2.2.2.1] at this
        exact this
      have HM7 := Lib.hid MS.out.2.2.2.1
      have HO7 : Hid (l5.o.Nodup ∧ ∀ x ∈ l5.o, isW x) := ⟨K5.out.dup _ _ L5.out, fun x hx => K5.out.oW L5.out hx⟩
      have HS78 : Hid ((mS (stV s5) ln (-1)).ls.length = 8) := by show (dA s5 _).1.ls.length = _; rw [dA_len, HL5.out]
      have HC7 := Lib.hid (HCNT.out _ HM7.out HS78.out)
      have HCKF : Hid (ckL (dA (mS (stV s5) ln (-1)) (mS (stV s5) ln (-1)).ls.length).1.ls.length ln = 0) := by show _ = _; rw [dA_len]; exact ckL_nat MS.out.2.2.2.2.1
      have HMS2 := Lib.hid MS.out.2.2.2.2.2
      generalize hnn : sumI s5 (ln : Int) - 1 = nn at HU HMS2
      have hn0 : 0 ≤ nn := by have := Z5.out; omega
      clear hnn MS
      generalize mS (stV s5) ln (-1) = s7 at HU HSP HM7 HS78 HC7 HMS2 HCKF
      have hmm := @run_makeMap Try.prog
      go_upto_region 20 with (first
        | (go_at_call 23; refine HU.out.mono ?_; rintro e w9 ⟨rfl, q1, q2⟩; have C9 := Lib.hid q1; have F9 := Lib.hid (HFT.out _ _ F8.out q2); clear q1 q2)
        | (go_at_call 15; refine (HSP.out _ C9.out).mono ?_; rintro e w10 ⟨rfl, q1⟩; subst q1))
      clear HU HSP
      obtain ⟨y9, O9, M9, S9⟩ := C9.out
      have HMB := Lib.hid (MB.new w9)
      have HFM : Hid (Fr No w9 (w9.alloc (.map #[] 0))) := Fr.alloc _ _ _
      have HTOP := Lib.hid M9.top
      have HSUB := Lib.hid S9
      have M10 := Lib.hid (M9.no HFM.out)
      have HBG : Hid (W.heap.size ≤ w9.heap.size ∧ w9.heap.size < (w9.alloc (.map #[] 0)).heap.size) := ⟨F9.out.size, by simp⟩
      have F10 := Lib.hid (F9.out.trans HFM.out)
      clear M9 S9
      go_upto_region 21 with (fail)
      generalize w9.alloc _ = w10 at HMB HFM M10 F10 HBG ⊢
      generalize w9.heap.size = b at HMB HTOP HBG ⊢
      have HD3 := Lib.hid (deliver_ok M10.out HM7.out)
      have HFX : Hid (∀ w w', Fr No W w → Fr O9 w w' → Fr No W w') := fun w w' f g => f.thenN (g.mono (fun k _ ok => HSUB.out k ok))
      have HSP2 : Hid (∀ w, CM w O9 B y9 (dA s7 s7.ls.length).1 → Calls Try.prog 15 #[.pointer (some ⟨B, 0, none⟩), .int .i64 (ln : Int)] w fun e w' => e = .returned (.tuple #[.int .i64 (spI (dA s7 s7.ls.length).1 ln), .int .i64 0]) ∧ w = w') := fun w hc => by
        have := spur_ok hc (dA_ok HM7.out _) (ln : Int)
        rw [HCKF.out, if_pos rfl] at this
        exact this
      have HDK : Hid (∀ v w, DK w10 O9 B y9 s7 s7.ls.length v w → CM w O9 B y9 (dA s7 s7.ls.length).1 ∧ w.ownsRow w10.heap.size 50 9 v (dA s7 s7.ls.length).2.length (dsE (dA s7 s7.ls.length).2) ∧ Fr O9 w10 w) := fun v w h => ⟨h.cm, h.own, h.fr⟩
      generalize hds2 : (dA s7 s7.ls.length).2 = ds2 at HDK HC7 HMS2
      generalize hsp : spI (dA s7 s7.ls.length).1 ln = sp at HSP2 HMS2
      generalize hS8 : (dA s7 s7.ls.length).1 = s8 at HDK HSP2
      clear hds2 hsp hS8 HCKF
      go_wp2_with (go_at_call 20; refine HD3.out.mono ?_; rintro e w11 ⟨v11, rfl, q⟩; obtain ⟨q1, q2, q3⟩ := HDK.out _ _ q; obtain ⟨a11, c11, rfl⟩ := own_shape q2; have M11 := Lib.hid q1; have OW11 := Lib.hid q2; have F11 := Lib.hid (HFX.out _ _ F10.out q3); have MB11 := Lib.hid (HMB.out.fr q3 (fun ok => by have := HTOP.out b ok; omega)); clear q q1 q2 q3)
      clear HD3 HDK
      have HND : Hid ((atts ln ds2).Nodup ∧ ∀ x ∈ atts ln ds2, isW x) := by
        by_cases e : nn = 0
        · rw [(HMS2.out.2 e).1]; exact HO7.out
        · rw [(HMS2.out.1 e).1]; exact ⟨List.nodup_nil, fun x hx => by cases hx⟩
      go_loopw [14, 17, 89] (fun v14 v17 vi wr => ∃ i : Nat, vi = .int .i64 i ∧ Hid (v14 = .int .i64 ((atts ln (ds2.take i)).length : Nat) ∧ i ≤ ds2.length ∧ MB wr b (atts ln (ds2.take i)) ∧ Fr (fun k => k = b) w11 wr)) (fun _ _ vi _ => ds2.length - (intOf vi).toNat)
      case atStart => exact ⟨0, rfl, rfl, Nat.zero_le _, MB11.out, Fr.refl _ _⟩
      case round =>
        obtain ⟨i, rfl, HI⟩ := hrel
        have i0 : (0 : Int) ≤ i := by omega
        have i2 : (i : Int) ≤ 1000 := by have := HI.out.2.1; have := HC7.out; omega
        obtain ⟨e14, hil, hmb, hfr⟩ := HI.out
        subst e14
        have HMBI := Lib.hid hmb
        have HFW := Lib.hid hfr
        by_cases hi : i < ds2.length
        · have i1 : (i : Int) < (ds2.length : Nat) := by omega
          have hd := List.getElem?_eq_getElem hi
          generalize ds2[i] = d at hd
          obtain ⟨g, cap2, e⟩ := own_slice2 OW11.out (by omega)
          cases e
          have hgb : g ≠ b := by have := (OW11.out.lt g rfl).1; have := HBG.out.2; omega
          have HRA := Lib.hid (ds_range (own_fr2 OW11.out HFW.out (fun k e => by cases e; exact hgb)) hd)
          have HI1 : Hid (i + 1 ≤ ds2.length) := hi
          have HTK := Lib.hid (atts_take (n := (ln : Int)) hd)
          have hlen : (atts ln (ds2.take i)).length ≤ 1000 := by
            have h1 : (atts ln (ds2.take i)).length ≤ (ds2.take i).length := by unfold atts; rw [List.length_map]; exact List.length_filter_le _ _
            rw [List.length_take] at h1
            have := HC7.out
            omega
          have HPRE : Hid (atts ln ds2 = atts ln (ds2.take (i + 1)) ++ atts ln (ds2.drop (i + 1))) := by show _ = _; rw [← atts_app, List.take_append_drop]
          have HMS : Hid (ds2.length - (intOf (Value.int IntKind.i64 ((i : Int) + 1))).toNat < ds2.length - (intOf (Value.int IntKind.i64 (i : Int))).toNat) := by
            show _ < _
            simp only [intOf]
            omega
          obtain ⟨da, dn, dt, dk, dc, dp, dd, dv, dw⟩ := d
          clear hi HI hd hil hmb hfr hgb
          unfold dE at HRA
          go_upto_region 24 with (first
            | ((with_reducible refine ld_gate ?_); refine wpList_load_mid rfl 50 (Operand.tmp 91) rfl g (i * 9) rfl [_, _, _, _, _, _, _, _, _] _ HRA.out Try.underlying50 rfl size_dv ?_; go_frame)
            | ((with_reducible refine st_gate ?_); refine wpList_store_row rfl 50 (Operand.tmp 17) (Operand.tmp 92) rfl wr.heap.size (dvc da dn dt dk dc dp dd dv dw) rfl rfl _ (dvc 0 0 0 0 0 0 0 0 false) (RowAt.new wr _ _) size_dv rfl (dvc_one _ _ _ _ _ _ _ _ _) ?_; rw [World.setRow_alloc_new]))
          have HX0 := Lib.hid (RowAt.new wr 50 (dvc da dn dt dk dc dp dd dv dw))
          have HF0 : Hid (Fr No wr (wr.alloc (.cells (dvc da dn dt dk dc dp dd dv dw) 50))) := Fr.alloc _ _ _
          have HXB : Hid (wr.heap.size ≠ b) := by have := HMBI.out.lt; show ¬ _ = _; omega
          generalize World.alloc wr _ = W3 at HX0 HF0 ⊢
          generalize wr.heap.size = X at HX0 HXB ⊢
          have x1 : W3.cell? ⟨X, 1, none⟩ = some (.int .i64 dn) := HX0.out.cell 1
          have x0 : W3.cell? ⟨X, 0, none⟩ = some (.int .i64 da) := HX0.out.cell 0
          have HMB3 := Lib.hid (HMBI.out.fr HF0.out id)
          have HF3 := Lib.hid (HFW.out.trans HF0.out.any)
          by_cases he : dn = (ln : Int)
          · have he1 : (dn == (ln : Int)) = true := by simpa using he
            have htk := HTK.out
            rw [if_pos he] at htk
            have HT2 := Lib.hid htk
            have hpre := HPRE.out
            rw [htk, List.append_assoc] at hpre
            have hnd := HND.out
            rw [hpre] at hnd
            have hda : isW da := hnd.2 da (by simp)
            have hks : ∀ k ∈ atts ln (ds2.take i), isW k := fun k hk => hnd.2 k (by simp [hk])
            have hnot : da ∉ atts ln (ds2.take i) := fun hm => by
              have := (List.nodup_append.1 hnd.1).2.2 da hm da (by simp)
              exact this rfl
            have HLK := Lib.hid (HMB3.out.look hks hda hnot)
            obtain ⟨W4, g1, g2, g3⟩ := HMB3.out.put hks hda hnot
            have HUP := Lib.hid g1
            have HM4 := Lib.hid g2
            have HF4 := Lib.hid (HF3.out.trans g3)
            have y0 : ∀ P : Prop, P → P := fun _ h => h
            generalize hA : atts ln (ds2.take i) = A at HT2 hlen HM4
            have hwl : IntKind.i64.wrap ((A.length : Nat) + 1 : Int) = (A.length : Nat) + 1 := IntWalk.i64_in _ (by omega)
            clear he htk hpre hnd hda hks hnot g1 g2 g3 hA HTK y0
            go_wp2_with (first
              | (at_lookup; refine wpList_look rfl _ _ _ false rfl _ _ rfl rfl _ HLK.out ?_)
              | (at_mapUpdate; refine wpList_upd rfl _ _ _ _ rfl _ _ _ rfl rfl rfl HUP.out ?_))
            go_roundw
            case rel => exact ⟨i + 1, by push_cast; rfl, by rw [HT2.out]; simp, HI1.out, by rw [HT2.out]; exact HM4.out, HF4.out⟩
            case measure => exact HMS.out
          · have he1 : (dn == (ln : Int)) = false := by simpa using he
            have htk := HTK.out
            rw [if_neg he, List.append_nil] at htk
            have HT2 := Lib.hid htk
            clear he htk HTK
            go_wp2
            go_roundw
            case rel => exact ⟨i + 1, by push_cast; rfl, by rw [HT2.out], HI1.out, by rw [HT2.out]; exact HMB3.out, HF3.out⟩
            case measure => exact HMS.out
        · have i1 : ¬ (i : Int) < (ds2.length : Nat) := by omega
          have hile : i = ds2.length := by omega
          have hBO : ¬ O9 b := fun ok => by have := HTOP.out b ok; omega
          have HM12 := Lib.hid (M11.out.fr hfr (fun k ok e => hBO (by rw [← e]; exact ok)))
          have F12 : Hid (Fr No W wr) := HFT.out _ _ F11.out (hfr.mono (fun k _ e => by subst e; exact .inr HBG.out.1))
          have HS12 := Lib.hid (HSP2.out _ HM12.out)
          subst hile
          rw [List.take_length]
          clear hi HI hil hmb hfr hBO HMBI HFW i0 i2
          by_cases hz : nn = 0
          · obtain ⟨ha, hb⟩ := HMS2.out.2 hz
            have hn1 : decide (0 < nn) = false := by simp; omega
            by_cases hA : l5.o = []
            · have hspn : sp ≠ l5.s := fun e => (hb.2 e) hA
              have hs1 : (l5.s == sp) = false := by simpa using fun e => hspn e.symm
              rw [ha, hA]
              clear hz ha hb hA hspn
              go_wp2_with (first
                | (go_at_call 15; refine HS12.out.mono ?_; rintro e w13 ⟨rfl, q1⟩; subst q1)
                | (go_at_call 9; refine (awake_any _).mono ?_; rintro e w14 ⟨rfl, q⟩; have F14 := Lib.hid (F12.out.trans q); clear q))
              go_ret
              exact ⟨rfl, F14.out⟩
            · have hspe : sp = l5.s := hb.1 hA
              have hlp : (0 : Int) < (l5.o.length : Nat) := by have := List.length_pos_iff.2 hA; omega
              have hlp2 : 0 < l5.o.length := List.length_pos_iff.2 hA
              rw [ha]
              subst hspe
              clear hz ha hb hA
              go_wp2_with (first
                | (go_at_call 15; refine HS12.out.mono ?_; rintro e w13 ⟨rfl, q1⟩; subst q1)
                | (go_at_call 9; refine (awake_any _).mono ?_; rintro e w14 ⟨rfl, q⟩; have F14 := Lib.hid (F12.out.trans q); clear q))
              go_ret
              exact ⟨rfl, F14.out⟩
          · obtain ⟨ha, hb⟩ := HMS2.out.1 hz
            have hn1 : decide (0 < nn) = true := by simp; omega
            rw [ha]
            subst hb
            clear hz ha
            go_wp2_with (first
              | (go_at_call 15; refine HS12.out.mono ?_; rintro e w13 ⟨rfl, q1⟩; subst q1)
              | (go_at_call 9; refine (awake_any _).mono ?_; rintro e w14 ⟨rfl, q⟩; have F14 := Lib.hid (F12.out.trans q); clear q))
            go_ret
            exact ⟨rfl, F14.out⟩
theorem masked_any {W : World} {a : Option Addr} {P : List OpR} (cap : Nat) (ln : Int) (hP : OpsIn W a P) : Calls Try.prog 5 #[.int .i64 ln, .slice a P.length cap] W fun e w' => e = .returned (.bool true) ∧ Fr No W w' := by
  cases h : okL ln P.length
  · exact masked_not ln a P.length cap h
  · simp [okL] at h
    obtain ⟨m, rfl⟩ : ∃ m : Nat, ln = m := ⟨ln.toNat, by omega⟩
    exact masked_ok cap (by omega) h.1.1 hP
end Go.Proofs.Ytbnchmhhhildnaa
