/- Interrupts: InterruptsLines' walk. -/
import Derived.Test.YtbnchmhhhildnaaXzo
namespace Go.Proofs.Ytbnchmhhhildnaa
open Go.RowKit Go.Maps
set_option linter.unusedVariables false

theorem ne_chan (a b : Option Nat) (w : World) : Sem.run Try.prog (binOp BinOp.neq 39 (Value.chan a) (Value.chan b)) w = Result.ok (Value.bool (!(a == b))) w := by
  first | kernel_rfl | rfl | simp [go_sem]
theorem newS_get {cs : List Nat} {i : Nat} {c : Nat} (h : cs[i]? = some c) : (newS cs).ls[i]? = some ⟨c, [], false, 0⟩ := by
  show (cs.map _)[i]? = _
  rw [List.getElem?_map, h]; rfl
theorem chI_new {cs : List Nat} {i : Nat} {c : Nat} (h : cs[i]? = some c) : chI (newS cs) i = some c := by
  unfold chI
  rw [if_pos (by omega), Int.toNat_natCast, newS_get h]; rfl
theorem chI_out {cs : List Nat} {n : Int} (h : n < 0 ∨ (cs.length : Int) ≤ n) : chI (newS cs) n = none := by
  unfold chI
  split
  · rw [List.getElem?_eq_none (by rw [newS_len]; omega)]; rfl
  · rfl
theorem nmI_none (cs : List Nat) : nmI (newS cs) none = -1 := by
  have : (newS cs).ls.findIdx? (fun l => some l.ch == none) = none := by
    rw [List.findIdx?_eq_none_iff]
    intro l _; rfl
  unfold nmI
  rw [this]
theorem nmI_hit {cs : List Nat} (hd : cs.Nodup) {i : Nat} {c : Nat} (h : cs[i]? = some c) : nmI (newS cs) (some c) = i := by
  have hi := (List.getElem?_eq_some_iff.1 h).1
  have : (newS cs).ls.findIdx? (fun l => some l.ch == some c) = some i := by
    rw [List.findIdx?_eq_some_iff_getElem]
    have hl : i < (newS cs).ls.length := by rw [newS_len]; exact hi
    refine ⟨hl, ?_, fun j hj => ?_⟩
    · have := (List.getElem?_eq_some_iff.1 (newS_get h)).2
      rw [this]; simp
    · have hjl : j < cs.length := by omega
      have e := (List.getElem?_eq_some_iff.1 (newS_get (List.getElem?_eq_getElem hjl))).2
      rw [e]
      simp
      intro e2
      have := (List.getElem?_inj hjl hd).1 ((List.getElem?_eq_getElem hjl).trans (by rw [e2, h]))
      omega
  unfold nmI
  rw [this]
theorem nmI_miss {cs : List Nat} {c : Nat} (h : c ∉ cs) : nmI (newS cs) (some c) = -1 := by
  have : (newS cs).ls.findIdx? (fun l => some l.ch == some c) = none := by
    rw [List.findIdx?_eq_none_iff]
    intro l hl
    simp [newS] at hl
    obtain ⟨x, hx, rfl⟩ := hl
    simp
    intro e; subst e; exact h hx
  unfold nmI
  rw [this]
theorem new_q {q : Nat} (hq : q < 32) (W : World) : Calls Try.prog 10 #[.int .i64 (1 + (q : Int))] W fun e w' => ∃ B, e = .returned (.tuple #[.pointer (some ⟨B, 0, none⟩), .int .i64 0]) ∧ ∃ cs : List Nat, cs.length = 1 + q ∧ cs.Nodup ∧ (∀ c ∈ cs, W.heap.size ≤ c ∧ c < w'.heap.size) ∧ CE No W.heap.size w' B (newS cs) ∧ Fr No W w' := by
  have h := new_ce (n := 1 + q) (by omega) (by omega) W
  rw [show (((1 + q : Nat)) : Int) = 1 + (q : Int) by push_cast; rfl] at h
  exact h
set_option maxRecDepth 100000 in
set_option maxHeartbeats 4000000 in
theorem lines_bad {W : World} {ls n o : Int} (h : ls < 1 ∨ 32 < ls) (h0 : 0 ≤ o) (h1 : o < 256) : Calls Try.prog 4 #[.int .i64 ls, .int .i64 n, .int .u8 o] W fun e w' => e = .returned (.bool true) ∧ Fr No W w' := by
  obtain ⟨q, hq⟩ : ∃ q : Nat, o % 32 = (q : Int) := ⟨(o % 32).toNat, by omega⟩
  have hq32 : q < 32 := by omega
  have hq2 : o.tmod 32 = (q : Int) := by rw [Int.tmod_eq_emod_of_nonneg h0, hq]
  have hwt : IntKind.i64.wrap o = o := IntWalk.i64_in _ (by omega)
  have hwq : IntKind.i64.wrap (1 + (q : Int)) = 1 + (q : Int) := IntWalk.i64_in _ (by omega)
  have q0 : (q : Int) < 32 := by omega
  have HE := Lib.hid (inew_err h)
  have HN := Lib.hid (new_q hq32)
  by_cases hl : ls < 1
  · have d1 : decide (ls < 1) = true := by simpa using hl
    clear h hq32 hl
    go_enter Try.func4, Try.ntmps4
    go_wp2_with (first
      | (go_at_call 10; refine (HE.out _).mono ?_; clear HE; rintro e w1 ⟨rfl, q1⟩; subst q1)
      | (go_at_call 10; refine (HN.out _).mono ?_; rintro e w2 ⟨B, rfl, cs, q1, q2, q3, q4, q5⟩; have F2 := Lib.hid q5; clear q1 q2 q3 q4 q5)
      | (go_at_call 9; refine (awake_any _).mono ?_; rintro e w3 ⟨rfl, q⟩; have F3 := Lib.hid (F2.out.trans q); clear q))
    go_ret
    exact ⟨rfl, F3.out⟩
  · have d1 : decide (ls < 1) = false := by simpa using hl
    have d2 : decide (32 < ls) = true := by simp; omega
    clear h hq32 hl
    go_enter Try.func4, Try.ntmps4
    go_wp2_with (first
      | (go_at_call 10; refine (HE.out _).mono ?_; clear HE; rintro e w1 ⟨rfl, q1⟩; subst q1)
      | (go_at_call 10; refine (HN.out _).mono ?_; rintro e w2 ⟨B, rfl, cs, q1, q2, q3, q4, q5⟩; have F2 := Lib.hid q5; clear q1 q2 q3 q4 q5)
      | (go_at_call 9; refine (awake_any _).mono ?_; rintro e w3 ⟨rfl, q⟩; have F3 := Lib.hid (F2.out.trans q); clear q))
    go_ret
    exact ⟨rfl, F3.out⟩
set_option maxRecDepth 100000 in
set_option maxHeartbeats 4000000 in
theorem lines_ok {W : World} {m : Nat} {n o : Int} (hm0 : 0 < m) (hm1 : m ≤ 32) (h0 : 0 ≤ o) (h1 : o < 256) : Calls Try.prog 4 #[.int .i64 (m : Int), .int .i64 n, .int .u8 o] W fun e w' => e = .returned (.bool true) ∧ Fr No W w' := by
  obtain ⟨q, hq⟩ : ∃ q : Nat, o % 32 = (q : Int) := ⟨(o % 32).toNat, by omega⟩
  have hq32 : q < 32 := by omega
  have hq2 : o.tmod 32 = (q : Int) := by rw [Int.tmod_eq_emod_of_nonneg h0, hq]
  have hwt : IntKind.i64.wrap o = o := IntWalk.i64_in _ (by omega)
  have hwq : IntKind.i64.wrap (1 + (q : Int)) = 1 + (q : Int) := IntWalk.i64_in _ (by omega)
  have q0 : (q : Int) < 32 := by omega
  have HM := Lib.hid (new_ce hm0 hm1)
  have HN := Lib.hid (new_q hq32)
  have HM1 := Lib.hid hm1
  have HM0 := Lib.hid hm0
  have HQ := Lib.hid hq32
  have m32 : (m : Int) ≤ 32 := by omega
  clear hq32 hm0 hm1
  go_enter Try.func4, Try.ntmps4
  go_upto_region 5 with (first
    | (go_at_call 10; refine (HM.out _).mono ?_; clear HM; rintro e w1 ⟨B, rfl, cs, q1, q2, q3, q4, q5⟩; have HCL := Lib.hid q1; have HCD := Lib.hid q2; have HCX := Lib.hid q3; have C1 := Lib.hid q4; have F1 := Lib.hid q5; clear q1 q2 q3 q4 q5)
    | (go_at_call 10; refine (HN.out _).mono ?_; rintro e w2 ⟨D, rfl, ds, q1, q2, q3, q4, q5⟩; have HDL := Lib.hid q1; have HDX := Lib.hid q3; have D2 := Lib.hid q4; have F2 := Lib.hid q5; clear q1 q2 q3 q4 q5))
  have F12 := Lib.hid (F1.out.trans F2.out)
  have C2 := Lib.hid (C1.out.no F2.out)
  have KC : Hid (IOk (newS cs)) := newS_ok (by rw [HCL.out]; exact HM0.out) (by rw [HCL.out]; have := HM1.out; omega)
  have KD : Hid (IOk (newS ds)) := newS_ok (by rw [HDL.out]; omega) (by rw [HDL.out]; have := HQ.out; omega)
  have HAP : Hid (∀ c ∈ cs, c ∉ ds) := fun c hc hd => by have := (HCX.out c hc).2; have := (HDX.out c hd).1; omega
  clear HN hq hq2 hwt hwq
  have HLI := Lib.hid (fun x => line_ce C2.out KC.out x)
  have HNC := Lib.hid (fun w (f : Fr No w2 w) x => number_ce (C2.out.no f) KC.out x)
  have HND := Lib.hid (fun w (f : Fr No w2 w) x => number_ce (D2.out.no f) KD.out x)
  by_cases hn : n < 0 ∨ (m : Int) ≤ n
  · have hch := chI_out (cs := cs) (n := n) (by rw [HCL.out]; exact hn)
    have hl := HLI.out n
    rw [hch] at hl
    have HL := Lib.hid hl
    have hnn := HNC.out
    have HNN : Hid (Calls Try.prog 18 #[.pointer (some ⟨B, 0, none⟩), .chan none] w2 fun e w' => e = .returned (.int .i64 (-1)) ∧ Fr No w2 w') := by
      have := HNC.out w2 (Fr.refl _ _) none
      rw [nmI_none] at this
      exact this
    have hc1 := eq_chan none none
    by_cases h2 : n < 0
    · have d1 : decide (n < 0) = true := by simpa using h2
      clear hn hch hl hnn h2 HLI HNC HND
      go_wp2_with (first
        | (go_at_call 17; refine HL.out.mono ?_; rintro e w3 ⟨rfl, q⟩; subst q)
        | (go_at_call 18; refine HNN.out.mono ?_; rintro e w3 ⟨rfl, q⟩; have F3 := Lib.hid (F12.out.trans q); clear q)
        | (go_at_call 9; refine (awake_any _).mono ?_; rintro e w4 ⟨rfl, q⟩; have F4 := Lib.hid (F3.out.trans q); clear q))
      go_ret
      exact ⟨rfl, F4.out⟩
    · have d1 : decide (n < 0) = false := by simpa using h2
      have d2 : decide ((m : Int) ≤ n) = true := by simp; omega
      clear hn hch hl hnn h2 HLI HNC HND
      go_wp2_with (first
        | (go_at_call 17; refine HL.out.mono ?_; rintro e w3 ⟨rfl, q⟩; subst q)
        | (go_at_call 18; refine HNN.out.mono ?_; rintro e w3 ⟨rfl, q⟩; have F3 := Lib.hid (F12.out.trans q); clear q)
        | (go_at_call 9; refine (awake_any _).mono ?_; rintro e w4 ⟨rfl, q⟩; have F4 := Lib.hid (F3.out.trans q); clear q))
      go_ret
      exact ⟨rfl, F4.out⟩
  · obtain ⟨j, rfl⟩ : ∃ j : Nat, n = j := ⟨n.toNat, by omega⟩
    have hj : j < cs.length := by rw [HCL.out]; omega
    obtain ⟨c, hc⟩ : ∃ c, cs[j]? = some c := ⟨_, List.getElem?_eq_getElem hj⟩
    have hl := HLI.out (j : Int)
    rw [chI_new hc] at hl
    have HL := Lib.hid hl
    have HN1 : Hid (Calls Try.prog 18 #[.pointer (some ⟨B, 0, none⟩), .chan (some c)] w2 fun e w' => e = .returned (.int .i64 (j : Int)) ∧ Fr No w2 w') := by
      have := HNC.out w2 (Fr.refl _ _) (some c)
      rw [nmI_hit HCD.out hc] at this
      exact this
    have HN2 : Hid (∀ w, Fr No w2 w → Calls Try.prog 18 #[.pointer (some ⟨D, 0, none⟩), .chan (some c)] w fun e w' => e = .returned (.int .i64 (-1)) ∧ Fr No w w') := fun w f => by
      have := HND.out w f (some c)
      rw [nmI_miss (HAP.out c (List.mem_of_getElem? hc))] at this
      exact this
    have HN3 : Hid (∀ w, Fr No w2 w → Calls Try.prog 18 #[.pointer (some ⟨B, 0, none⟩), .chan none] w fun e w' => e = .returned (.int .i64 (-1)) ∧ Fr No w w') := fun w f => by
      have := HNC.out w f none
      rw [nmI_none] at this
      exact this
    have HLW := Lib.hid (fun w (f : Fr No w2 w) x => line_ce (C2.out.no f) KC.out x)
    have hc1 := eq_chan (some c) none
    have hc2 := eq_chan (some c) (some c)
    have hb1 : ((some c : Option Nat) == none) = false := rfl
    have hb2 : ((some c : Option Nat) == some c) = true := by simp
    rw [hb1] at hc1
    rw [hb2] at hc2
    have hc3 := ne_chan (some c) (some c)
    rw [hb2] at hc3
    have HCC := Lib.hid hc
    have d1 : decide ((j : Int) < 0) = false := by simp
    have d2 : decide ((m : Int) ≤ (j : Int)) = false := by simp; omega
    have d3 : ¬ (m ≤ j) := by omega
    have d4 : decide (m ≤ j) = false := by simp; omega
    clear hn hj hc hl hb1 hb2 HLI
    go_wp2_with (first
      | (go_at_call 17; refine HL.out.mono ?_; rintro e w3 ⟨rfl, q⟩; subst q)
      | (go_at_call 18; refine HN1.out.mono ?_; clear HN1; rintro e w3 ⟨rfl, q⟩; have G3 := Lib.hid q; clear q)
      | (go_at_call 18; refine (HN2.out _ G3.out).mono ?_; rintro e w4 ⟨rfl, q⟩; have G4 := Lib.hid (G3.out.trans q); clear q))
    have HSZ : Hid (cs.length = m) := HCL.out
    go_loopw [12, 88] (fun v12 vi wr => ∃ i : Nat, vi = .int .i64 i ∧ Hid (i ≤ m ∧ Fr No w2 wr)) (fun _ vi _ => m - (intOf vi).toNat)
    case atStart => exact ⟨0, rfl, Nat.zero_le _, G4.out⟩
    case round =>
      obtain ⟨i, rfl, HI⟩ := hrel
      have i0 : (0 : Int) ≤ i := by omega
      have i2 : (i : Int) ≤ 1000 := by have := HI.out.1; have := HM1.out; omega
      by_cases hi : i < m
      · have i1 : (i : Int) < (m : Nat) := by omega
        obtain ⟨x, hx⟩ : ∃ x, cs[i]? = some x := ⟨_, List.getElem?_eq_getElem (by rw [HSZ.out]; exact hi)⟩
        have hl := HLW.out wr HI.out.2 (i : Int)
        rw [chI_new hx] at hl
        have HLX := Lib.hid hl
        have hcx := eq_chan (some x) (some c)
        have HFW := Lib.hid HI.out.2
        have HI1 : Hid (i + 1 ≤ m) := hi
        have HMS : Hid (m - (intOf (Value.int IntKind.i64 ((i : Int) + 1))).toNat < m - (intOf (Value.int IntKind.i64 (i : Int))).toNat) := by
          show _ < _
          simp only [intOf]
          omega
        by_cases hij : i = j
        · subst hij
          have : x = c := Option.some.inj (hx.symm.trans HCC.out)
          subst this
          rw [show ((some x : Option Nat) == some x) = true by simp] at hcx
          clear hi hl hx HI
          go_wp2_with (go_at_call 17; refine HLX.out.mono ?_; rintro e w6 ⟨rfl, q⟩; subst q)
          go_roundw
          case rel => exact ⟨i + 1, by push_cast; rfl, HI1.out, HFW.out⟩
          case measure => exact HMS.out
        · have hne : x ≠ c := fun e => by
            subst e
            exact hij ((List.getElem?_inj (List.getElem?_eq_some_iff.1 hx).1 HCD.out).1 (hx.trans HCC.out.symm))
          rw [show ((some x : Option Nat) == some c) = false by simpa using hne] at hcx
          have hji : ((i : Int) == (j : Int)) = false := by simp; omega
          clear hi hl hx HI hij hne
          go_wp2_with (go_at_call 17; refine HLX.out.mono ?_; rintro e w6 ⟨rfl, q⟩; subst q)
          go_roundw
          case rel => exact ⟨i + 1, by push_cast; rfl, HI1.out, HFW.out⟩
          case measure => exact HMS.out
      · have i1 : ¬ (i : Int) < (m : Nat) := by omega
        have HFW := Lib.hid HI.out.2
        clear hi HI i0 i2
        go_wp2_with (first
          | (go_at_call 18; refine (HN3.out _ HFW.out).mono ?_; rintro e w6 ⟨rfl, q⟩; have G6 := Lib.hid (F12.out.trans (HFW.out.trans q)); clear q)
          | (go_at_call 9; refine (awake_any _).mono ?_; rintro e w7 ⟨rfl, q⟩; have F7 := Lib.hid (G6.out.trans q); clear q))
        go_ret
        exact ⟨rfl, F7.out⟩
theorem lines_any {W : World} (ls n : Int) {o : Int} (h0 : 0 ≤ o) (h1 : o < 256) : Calls Try.prog 4 #[.int .i64 ls, .int .i64 n, .int .u8 o] W fun e w' => e = .returned (.bool true) ∧ Fr No W w' := by
  by_cases h : ls < 1 ∨ 32 < ls
  · exact lines_bad h h0 h1
  · obtain ⟨m, rfl⟩ : ∃ m : Nat, ls = m := ⟨ls.toNat, by omega⟩
    exact lines_ok (by omega) (by omega) h0 h1
end Go.Proofs.Ytbnchmhhhildnaa
