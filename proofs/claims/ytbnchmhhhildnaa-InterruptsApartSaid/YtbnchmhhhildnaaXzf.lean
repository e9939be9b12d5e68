/- Interrupts: InterruptsNested's walk. -/
import Derived.Test.YtbnchmhhhildnaaXze
namespace Go.Proofs.Ytbnchmhhhildnaa
open Go.RowKit Go.Maps
set_option linter.unusedVariables false

theorem new8 (W : World) : Calls Try.prog 10 #[.int .i64 8] W fun e w' => ∃ B, e = .returned (.tuple #[.pointer (some ⟨B, 0, none⟩), .int .i64 0]) ∧ ∃ cs : List Nat, cs.length = 8 ∧ CE No W.heap.size w' B (newS cs) ∧ Fr No W w' := by
  have h : Calls Try.prog 10 #[.int .i64 8] W _ := new_ce (n := 8) (by omega) (by omega) W
  refine h.mono ?_
  rintro e w' ⟨B, rfl, cs, h2, _, _, h3, h4⟩
  exact ⟨B, rfl, cs, h2, h3, h4⟩
theorem newS_len (cs : List Nat) : (newS cs).ls.length = cs.length := by simp [newS]
/-- Is it one of eight lines, and are there at most forty calls? -/
def okL (ln : Int) (n : Nat) : Bool := decide (n ≤ 40) && decide (0 ≤ ln) && decide (ln < 8)
set_option maxRecDepth 100000 in
set_option maxHeartbeats 4000000 in
theorem nested_not {W : World} (ln : Int) (a : Option Addr) (n cap : Nat) (tm : Int) (h : okL ln n = false) : Calls Try.prog 7 #[.int .i64 ln, .slice a n cap, .int .u8 tm] W fun e w' => e = .returned (.bool true) ∧ Fr No W w' := by
  have HN := Lib.hid new8
  have fin : True := trivial
  by_cases h1 : 40 < n
  · have d1 : decide (40 < (n : Int)) = true := by simp; omega
    clear h h1
    go_enter Try.func7, Try.ntmps7
    go_wp2_with (first
      | (go_at_call 10; refine (HN.out _).mono ?_; rintro e w1 ⟨B, rfl, cs, q1, q2, q3⟩; have F1 := Lib.hid q3; clear q1 q2 q3)
      | (go_at_call 9; refine (awake_any _).mono ?_; rintro e w2 ⟨rfl, q⟩; have F2 := Lib.hid (F1.out.trans q); clear q))
    go_ret
    exact ⟨rfl, F2.out⟩
  have d1 : decide (40 < (n : Int)) = false := by simp; omega
  by_cases h2 : ln < 0
  · have d2 : decide (ln < 0) = true := by simpa using h2
    clear h h1 h2
    go_enter Try.func7, Try.ntmps7
    go_wp2_with (first
      | (go_at_call 10; refine (HN.out _).mono ?_; rintro e w1 ⟨B, rfl, cs, q1, q2, q3⟩; have F1 := Lib.hid q3; clear q1 q2 q3)
      | (go_at_call 9; refine (awake_any _).mono ?_; rintro e w2 ⟨rfl, q⟩; have F2 := Lib.hid (F1.out.trans q); clear q))
    go_ret
    exact ⟨rfl, F2.out⟩
  have d2 : decide (ln < 0) = false := by simpa using h2
  have d3 : decide (8 ≤ ln) = true := by
    simp [okL] at h
    simp
    omega
  clear h h1 h2
  go_enter Try.func7, Try.ntmps7
  go_wp2_with (first
    | (go_at_call 10; refine (HN.out _).mono ?_; rintro e w1 ⟨B, rfl, cs, q1, q2, q3⟩; have F1 := Lib.hid q3; clear q1 q2 q3)
    | (go_at_call 9; refine (awake_any _).mono ?_; rintro e w2 ⟨rfl, q⟩; have F2 := Lib.hid (F1.out.trans q); clear q))
  go_ret
  exact ⟨rfl, F2.out⟩
set_option maxRecDepth 100000 in
set_option maxHeartbeats 8000000 in
theorem nested_ok {W : World} {ln : Nat} {a : Option Addr} {P : List OpR} (cap : Nat) {tm : Int} (h8 : ln < 8) (hl : P.length ≤ 40) (hP : OpsIn W a P) (ht0 : 0 ≤ tm) (ht1 : tm < 256) : Calls Try.prog 7 #[.int .i64 (ln : Int), .slice a P.length cap, .int .u8 tm] W fun e w' => e = .returned (.bool true) ∧ Fr No W w' := by
  have HN := Lib.hid new8
  have HP := Lib.hid hP
  have HL := Lib.hid hl
  have d1 : decide (40 < (P.length : Int)) = false := by simp; omega
  have d2 : decide ((ln : Int) < 0) = false := by simp
  have d3 : decide (8 ≤ (ln : Int)) = false := by simp; omega
  obtain ⟨n, hn⟩ : ∃ n : Nat, tm % 30 = (n : Int) := ⟨(tm % 30).toNat, by omega⟩
  have hn30 : (n : Int) < 30 := by omega
  have hn2 : tm.tmod 30 = (n : Int) := by rw [Int.tmod_eq_emod_of_nonneg ht0, hn]
  have hwt : IntKind.i64.wrap tm = tm := IntWalk.i64_in _ (by omega)
  have H8 := Lib.hid h8
  clear hl hP h8
  go_enter Try.func7, Try.ntmps7
  go_upto_region 4 with (go_at_call 10; refine (HN.out _).mono ?_; rintro e w1 ⟨B, rfl, cs, q1, q2, q3⟩; have HCS := Lib.hid q1; have C1 := Lib.hid q2; have F1 := Lib.hid q3; clear q1 q2 q3)
  clear d1 d2 d3
  have HK0 : Hid (IOk (newS cs)) := newS_ok (by rw [HCS.out]; omega) (by rw [HCS.out]; omega)
  have HRUN := Lib.hid (run_ce cap C1.out HK0.out F1.out.size (HP.out.fr F1.out (fun _ _ _ _ _ => id)) (fun hne b off e hb hh => by
    rcases HP.out.1 with e2 | ⟨b2, off2, e2, hb2, _⟩
    · exact hne e2
    · rw [e] at e2; cases e2
      rcases hh with hh | hh
      · exact hh
      · omega) HL.out)
  have HK1 := Lib.hid (runS_ok HK0.out P)
  have HC0 : Hid ((runS (newS cs) P).cn ((ln : Int), -1) ≤ 40) := by
    have h1 := runS_own HK0.out (ln : Int) P
    have h2 : (newS cs).cn ((ln : Int), -1) = 0 := rfl
    have := HL.out
    show _ ≤ _
    omega
  have HLEN : Hid ((runS (newS cs) P).ls.length = 8) := by show _ = _; rw [runS_len HK0.out, newS_len, HCS.out]
  generalize runS (newS cs) P = s1 at HRUN HK1 HC0 HLEN
  obtain ⟨l, hl⟩ : ∃ l, s1.ls[ln]? = some l := ⟨_, List.getElem?_eq_getElem (by rw [HLEN.out]; exact H8.out)⟩
  have HLL := Lib.hid hl
  have HBD := Lib.hid (sumI_bd HK1.out hl)
  have HCK : Hid (ckL s1.ls.length ln = 0) := ckL_nat hl
  have HC00 : Hid (0 ≤ s1.cn ((ln : Int), -1)) := HK1.out.c0 _
  clear hl
  have HMK : Hid (∀ w j, CE No W.heap.size w B (mS s1 ln j) → 0 ≤ s1.cn ((ln : Int), -1) + j → s1.cn ((ln : Int), -1) + j < 1000 → Calls Try.prog 21 #[.pointer (some ⟨B, 0, none⟩), .int .i64 (ln : Int), .int .i64 (-1)] w fun e w' => e = .returned (.tuple #[.int .i64 (sumI s1 ln + j + 1), .int .i64 0]) ∧ CE No W.heap.size w' B (mS s1 ln (j + 1)) ∧ Fr (Ft No W.heap.size) w w') := fun w j hc h0 h1 => by
    have := mask_ce hc (mS_ok HK1.out HLL.out h0 (by omega)) (ln : Int) (-1)
    rw [stM_own HK1.out HLL.out h1] at this
    exact this
  have HUK : Hid (∀ w j, CE No W.heap.size w B (mS s1 ln j) → 0 < s1.cn ((ln : Int), -1) + j → s1.cn ((ln : Int), -1) + j ≤ 1000 → Calls Try.prog 23 #[.pointer (some ⟨B, 0, none⟩), .int .i64 (ln : Int), .int .i64 (-1)] w fun e w' => e = .returned (.tuple #[.int .i64 (sumI s1 ln + j - 1), .int .i64 0]) ∧ CE No W.heap.size w' B (mS s1 ln (j - 1)) ∧ Fr (Ft No W.heap.size) w w') := fun w j hc h0 h1 => by
    have := unmask_ce hc (mS_ok HK1.out HLL.out (by omega) h1) (ln : Int) (-1)
    rw [stU_own HK1.out HLL.out h0] at this
    exact this
  have HMA : Hid (∀ w, CE No W.heap.size w B s1 → Calls Try.prog 13 #[.pointer (some ⟨B, 0, none⟩), .int .i64 (ln : Int)] w fun e w' => e = .returned (.tuple #[.int .i64 (sumI s1 ln), .int .i64 0]) ∧ w = w') := fun w hc => by
    have := masks_ce hc HK1.out (ln : Int)
    rw [HCK.out, if_pos rfl] at this
    exact this
  generalize hbf : sumI s1 ln = bf at HMK HUK HMA HBD
  clear hbf
  have b0 : 0 ≤ bf := HBD.out.1
  have b1 : bf ≤ 200000 := HBD.out.2
  go_upto_region 7 with (first
    | (go_at_call 19; refine HRUN.out.mono ?_; rintro e w2 ⟨rfl, q1, q2⟩; have C2 := Lib.hid q1; have F2 := Lib.hid (F1.out.thenN q2); clear q1 q2)
    | (go_at_call 13; refine (HMA.out _ C2.out).mono ?_; rintro e w3 ⟨rfl, q1⟩; subst q1))
  clear hn hn2 hwt ht0 ht1
  have HFT : Hid (∀ w w', Fr No W w → Fr (Ft No W.heap.size) w w' → Fr No W w') := fun w w' f g => f.thenN g
  go_wp2
  go_loopw [12, 13, 14, 52] (fun v12 v13 v14 vi wr => ∃ i : Nat, vi = .int .i64 i ∧ Hid (i ≤ n ∧ CE No W.heap.size wr B (mS s1 ln i) ∧ Fr No W wr)) (fun _ _ _ vi _ => n - (intOf vi).toNat)
  case atStart => exact ⟨0, rfl, Nat.zero_le _, by have h := mS_zero s1 ln; rw [show ((0 : Nat) : Int) = 0 from rfl, h]; exact C2.out, F2.out⟩
  case round =>
    obtain ⟨i, rfl, HI⟩ := hrel
    have i0 : (0 : Int) ≤ i := by omega
    have i2 : (i : Int) ≤ 1000 := by have := HI.out.1; omega
    by_cases hi : i < n
    · have i1 : (i : Int) < (n : Nat) := by omega
      have HM := Lib.hid (HMK.out wr i HI.out.2.1 (by have := HC00.out; omega) (by have := HC0.out; omega))
      have hw1 : IntKind.i64.wrap (bf + i) = bf + i := IntWalk.i64_in _ (by omega)
      have hw2 : IntKind.i64.wrap (bf + i + 1) = bf + i + 1 := IntWalk.i64_in _ (by omega)
      have HI1 : Hid (i + 1 ≤ n) := hi
      have HFW := Lib.hid HI.out.2.2
      have HMS : Hid (n - (intOf (Value.int IntKind.i64 ((i : Int) + 1))).toNat < n - (intOf (Value.int IntKind.i64 (i : Int))).toNat) := by
        show _ < _
        simp only [intOf]
        omega
      clear hi HI
      go_wp2_with (go_at_call 21; refine HM.out.mono ?_; rintro e w4 ⟨rfl, q1, q2⟩; have Q1 := Lib.hid q1; have Q2 := Lib.hid (HFT.out _ _ HFW.out q2); clear q1 q2)
      go_roundw
      case rel => exact ⟨i + 1, by push_cast; rfl, HI1.out, by push_cast; exact Q1.out, Q2.out⟩
      case measure => exact HMS.out
    · have hile : i = n := by have := HI.out.1; omega
      have i1 : ¬ (i : Int) < (n : Nat) := by omega
      have HE := HI.out.2
      rw [hile] at HE
      have HX := Lib.hid HE
      clear hi HE HI i0 i2
      subst hile
      go_wp2
      go_loopw [15, 16, 17, 73] (fun v12 v13 v14 vi wr => ∃ j : Nat, vi = .int .i64 j ∧ Hid (j ≤ i ∧ CE No W.heap.size wr B (mS s1 ln ((i : Int) - j)) ∧ Fr No W wr)) (fun _ _ _ vi _ => i - (intOf vi).toNat)
      case atStart => exact ⟨0, rfl, Nat.zero_le _, by rw [show (i : Int) - ((0 : Nat) : Int) = i by omega]; exact HX.out.1, HX.out.2⟩
      case round =>
        obtain ⟨j, rfl, HJ⟩ := hrel
        have j0 : (0 : Int) ≤ j := by omega
        have j2 : (j : Int) ≤ 1000 := by have := HJ.out.1; omega
        by_cases hj : j < i
        · have j1 : (j : Int) < (i : Nat) := by omega
          have hu := HUK.out wr ((i : Int) - j) HJ.out.2.1 (by have := HC00.out; omega) (by have := HC0.out; omega)
          rw [show bf + ((i : Int) - j) - 1 = bf + i - j - 1 by omega, show (i : Int) - j - 1 = i - ((j + 1 : Nat) : Int) by push_cast; omega] at hu
          have HU := Lib.hid hu
          clear hu
          have hw1 : IntKind.i64.wrap (bf + i) = bf + i := IntWalk.i64_in _ (by omega)
          have hw2 : IntKind.i64.wrap (bf + i - j) = bf + i - j := IntWalk.i64_in _ (by omega)
          have hw3 : IntKind.i64.wrap (bf + i - j - 1) = bf + i - j - 1 := IntWalk.i64_in _ (by omega)
          have HJ1 : Hid (j + 1 ≤ i) := hj
          have HFW := Lib.hid HJ.out.2.2
          have HMS : Hid (i - (intOf (Value.int IntKind.i64 ((j : Int) + 1))).toNat < i - (intOf (Value.int IntKind.i64 (j : Int))).toNat) := by
            show _ < _
            simp only [intOf]
            omega
          clear hj HJ
          go_wp2_with (go_at_call 23; refine HU.out.mono ?_; rintro e w4 ⟨rfl, q1, q2⟩; have Q1 := Lib.hid q1; have Q2 := Lib.hid (HFT.out _ _ HFW.out q2); clear q1 q2)
          go_roundw
          case rel => exact ⟨j + 1, by push_cast; rfl, HJ1.out, Q1.out, Q2.out⟩
          case measure => exact HMS.out
        · have hjle : j = i := by have := HJ.out.1; omega
          have j1 : ¬ (j : Int) < (i : Nat) := by omega
          have hE := HJ.out.2
          rw [hjle, Int.sub_self, mS_zero] at hE
          have HY := Lib.hid hE
          clear hj hE HJ j0 j2
          subst hjle
          go_wp2_with (first
            | (go_at_call 13; refine (HMA.out _ HY.out.1).mono ?_; rintro e w6 ⟨rfl, q1⟩; subst q1)
            | (go_at_call 9; refine (awake_any _).mono ?_; rintro e w7 ⟨rfl, q⟩; have F7 := Lib.hid (HY.out.2.trans q); clear q))
          go_ret
          exact ⟨rfl, F7.out⟩
theorem nested_any {W : World} {a : Option Addr} {P : List OpR} (cap : Nat) (ln : Int) {tm : Int} (hP : OpsIn W a P) (ht0 : 0 ≤ tm) (ht1 : tm < 256) : Calls Try.prog 7 #[.int .i64 ln, .slice a P.length cap, .int .u8 tm] W fun e w' => e = .returned (.bool true) ∧ Fr No W w' := by
  cases h : okL ln P.length
  · exact nested_not ln a P.length cap tm h
  · simp [okL] at h
    obtain ⟨m, rfl⟩ : ∃ m : Nat, ln = m := ⟨ln.toNat, by omega⟩
    exact nested_ok cap (by omega) h.1.1 hP ht0 ht1
end Go.Proofs.Ytbnchmhhhildnaa
