/- The meter's Charge, Budget, Compare. -/
import Derived.Test.YtjaaljcdaamcjaaGreatMf
import Derived.Deep.RegionHeld3
namespace Go.Proofs.YtjaaljcdaamcjaaGreat.Pa
open Go.RowKit
set_option linter.unusedVariables false

set_option maxRecDepth 100000 in
theorem charge_nil (now p : Int) (c : Bool) (W : World) : Calls Tryz.prog 109 #[.pointer none, .int .i64 now, .int .i64 p, .bool c] W fun e w' => e = .returned (.int .i64 35) ∧ Fr (fun _ => False) W w' := by
  go_enter Tryz.func109, Tryz.ntmps109
  go_wp2_with (go_at_call 145; refine (check_nil _ _ _).mono ?_; rintro e w' ⟨rfl, rfl⟩)
  go_ret
  exact ⟨rfl, Fr.alloc _ _ _⟩
def nowL (L : List Ch) (n : Nat) : Nat := L.countP fun c => c.t == n
/-- What Charge answers, and the charges behind it. -/
def chV (C : CF) (T : Nat) (L : List Ch) (now p : Int) : Int := if erV C T now [p] = 0 then (if nowL L now.toNat < C.pr then 0 else 18) else erV C T now [p]
def chL (C : CF) (T : Nat) (L : List Ch) (now p : Int) (c : Bool) : List Ch := if chV C T L now p = 0 then L ++ [⟨now.toNat, p.toNat, c⟩] else L
theorem chk1 {q : MQ} {B : Nat} {W : World} (hm : MAt W B q) (now p : Int) {z : Int} (hz : chkP4 q.np q.told now [p] = z) : ∀ W2 g, Fr (fun _ => False) W W2 → W2.cell? ⟨g, 0, none⟩ = some (.int .i64 p) → Calls Tryz.prog 145 #[.pointer (some ⟨B, 0, none⟩), .int .i64 now, .slice (some ⟨g, 0, none⟩) 1 1] W2 fun e w' => e = .returned (.int .i64 z) ∧ W2 = w' := fun W2 g f hc => by
  rw [← hz]
  refine check_any (hm.fr f id) now [p] (by simp) g 1 fun i x hx => ?_
  match i, hx with
  | 0, hx => cases hx; exact hc
theorem slot_now_len {q : MQ} {L : List Ch} (h : LI q L) : (q.sl (q.told % q.win)).length = nowL L q.told := by
  rw [slot_told h, List.length_map, ← List.countP_eq_length_filter]; rfl
theorem LI.to {q q' : MQ} {L L' : List Ch} (h : LI q L) (he : q' = q) (hl : L' = L) : LI q' L' := by subst he hl; exact h
set_option maxRecDepth 100000 in
set_option maxHeartbeats 1000000 in
theorem charge_any {W : World} {B T : Nat} {C : CF} {L : List Ch} (h : MS B C T L W) (now p : Int) (c : Bool) (hl : L.length < 100000) : Calls Tryz.prog 109 #[.pointer (some ⟨B, 0, none⟩), .int .i64 now, .int .i64 p, .bool c] W (MR (.int .i64 (chV C T L now p)) B C (tiV C T now [p]) (chL C T L now p c) W) := by
  have HH := Lib.hid h
  have HLL := Lib.hid hl
  rcases er_cases (C := C) (T := T) (now := now) (p := p) with ⟨z, hz, h0, ht⟩ | ⟨n, k, rfl, rfl, hz, ht, h1, h2, h3⟩
  · have HV : Hid (chV C T L now p = z) := by show _ = _; rw [chV, hz, if_neg h0]
    have HVL : Hid (chL C T L now p c = L) := by show _ = _; rw [chL, HV.out, if_neg h0]
    rw [HV.out, HVL.out, ht]
    obtain ⟨q, hm, hL, rfl, rfl⟩ := h
    have HC := Lib.hid (chk1 hm now p hz)
    have hz0 : (z != 0) = true := by simpa using h0
    clear hz h0 ht hm hL
    go_enter Tryz.func109, Tryz.ntmps109
    go_wp2_with (go_at_call 145; refine (HC.out _ _ (Fr.alloc _ _ _) (by go_simp)).mono ?_; rintro e w' ⟨rfl, rfl⟩)
    go_ret
    exact ⟨rfl, HH.out.fr (Fr.alloc (fun _ => False) _ _) id, Fr.alloc _ _ _⟩
  · have HV : Hid (chV C T L n k = if nowL L n < C.pr then 0 else 18) := by show _ = _; rw [chV, if_pos hz]; simp only [Int.toNat_natCast]
    have HVL : Hid (chL C T L n k c = if nowL L n < C.pr then L ++ [⟨n, k, c⟩] else L) := by
      show _ = _
      rw [chL, HV.out]
      by_cases e : nowL L n < C.pr
      · rw [if_pos e, if_pos rfl, if_pos e]; simp only [Int.toNat_natCast]
      · rw [if_neg e, if_neg (by decide), if_neg e]
    rw [ht]
    generalize chV C T L n k = v at HV ⊢
    generalize chL C T L n k c = L' at HVL ⊢
    have h8 : k < 8 := by obtain ⟨q, hm, hL, rfl, rfl⟩ := h; have := hL.np1; have : k < q.np := h3; omega
    have HC : Hid (∀ W2 g, Fr (fun _ => False) W W2 → W2.cell? ⟨g, 0, none⟩ = some (.int .i64 (k : Int)) → Calls Tryz.prog 145 #[.pointer (some ⟨B, 0, none⟩), .int .i64 (n : Int), .slice (some ⟨g, 0, none⟩) 1 1] W2 fun e w' => e = .returned (.int .i64 0) ∧ W2 = w') := by
      obtain ⟨q, hm, hL, rfl, rfl⟩ := h
      exact chk1 hm n k hz
    have HT : Hid (∀ W2, Fr (fun _ => False) W W2 → Calls Tryz.prog 146 #[.pointer (some ⟨B, 0, none⟩), .int .i64 (n : Int)] W2 fun e w' => (∃ v, e = .returned v) ∧ MS B C n L w' ∧ Fr (fun j => j = B) W2 w') := fun W2 f => tell_any (h.fr f id) n h1 h2
    have HS : Hid (∀ W2, MS B C n L W2 → Calls Tryz.prog 147 #[.pointer (some ⟨B, 0, none⟩), .int .i64 (n : Int)] W2 fun e w' => e = .returned (.pointer (some ⟨B, 35 + n % C.win * 24, none⟩)) ∧ Fr (fun _ => False) W2 w') := fun W2 hm => by
      obtain ⟨q, hm, hL, rfl, rfl⟩ := hm
      exact slotof_any hm hL.w0 hL.w1 q.told
    have k0 : (0 : Int) ≤ k := by omega
    have k8 : (k : Int) < 8 := by omega
    have H3 := Lib.hid h3
    clear h h1 h2 h3 h8 hz ht
    go_enter Tryz.func109, Tryz.ntmps109
    go_upto_region 6 with (first
      | (go_at_call 145; refine (HC.out _ _ (Fr.alloc _ _ _) (by go_simp)).mono ?_; rintro e w' ⟨rfl, rfl⟩)
      | (go_at_call 146; refine (HT.out _ (Fr.alloc _ _ _)).mono ?_; rintro e W3 ⟨⟨v3, rfl⟩, m3, f3⟩; have M3 := Lib.hid m3; have F3 := Lib.hid ((Fr.alloc (fun j => j = B) _ _).trans f3); clear m3 f3)
      | (go_at_call 147; refine (HS.out _ M3.out).mono ?_; rintro e W4 ⟨rfl, f4⟩; have M4 := Lib.hid (M3.out.fr f4 id); have F4 := Lib.hid (F3.out.trans (f4.mono fun _ _ e => e.elim)); clear f4))
    obtain ⟨q, hm, hL, hc, htn⟩ := M4.out
    subst htn
    have HM := Lib.hid hm
    have HLI := Lib.hid hL
    have HCF := Lib.hid hc
    have hw : C.win = q.win := (congrArg CF.win hc).symm
    have hpr : C.pr = q.pr := (congrArg CF.pr hc).symm
    have hnp : C.np = q.np := (congrArg CF.np hc).symm
    rw [hpr] at HV HVL
    rw [hw]
    have c1 := hm.pr
    have p1 : (q.pr : Int) ≤ 8 := by have := hL.pr1; omega
    have HSL : Hid (q.told % q.win < 1000) := Nat.lt_of_lt_of_le (Nat.mod_lt _ hL.w0) hL.w1
    have HLEN : Hid ((q.sl (q.told % q.win)).length = nowL L q.told ∧ (q.sl (q.told % q.win)).length ≤ q.pr ∧ q.pr ≤ 8) := ⟨slot_now_len hL, slot_len hL (Nat.mod_lt _ hL.w0), hL.pr1⟩
    have HNP : Hid (k < q.np) := by rw [← hnp]; exact H3.out
    clear hm hL hc hw hpr hnp HC HT HS M3 F3 M4
    have HK : Hid (k < 8 ∧ ((q.sl (q.told % q.win)).length < q.pr → nowL L q.told < q.pr) ∧ ((q.sl (q.told % q.win)).length = q.pr → ¬ nowL L q.told < q.pr)) := ⟨by omega, fun e => by have := HLEN.out.1; omega, fun e => by have := HLEN.out.1; omega⟩
    have HGET : Hid (∀ j f, j < 8 → f < 3 → W4.cell? ⟨B, 35 + q.told % q.win * 24 + j * 3 + f, none⟩ = some (chgV (q.sl (q.told % q.win))[j]? f)) := fun j f hj hf => HM.out.chg _ j f HSL.out hj hf
    generalize hs : q.told % q.win = s at HSL HLEN HGET HK ⊢
    have HSS := Lib.hid hs
    clear hs
    go_wp2
    go_loop [30] (fun vi => ∃ i : Nat, vi = .int .i64 i ∧ Hid (i ≤ (q.sl s).length)) (fun vi => 8 - (intOf vi).toNat)
    case atStart => exact ⟨0, rfl, Nat.zero_le _⟩
    case round =>
      obtain ⟨i, rfl, HR⟩ := hrel
      have i0 : (0 : Int) ≤ i := by omega
      by_cases hi : i < q.pr
      · have i1 : (i : Int) < q.pr := by omega
        have i8 : (i : Int) < 8 := by omega
        have hi8 : i < 8 := by omega
        have d0 := HGET.out i 0 hi8 (by omega)
        have d1 := HGET.out i 1 hi8 (by omega)
        have d2 := HGET.out i 2 hi8 (by omega)
        have HI8 := Lib.hid hi8
        rw [Nat.add_zero] at d0
        cases hx : (q.sl s)[i]? with
        | none =>
          rw [hx] at d0 d1 d2
          have e0 : W4.cell? ⟨B, 35 + s * 24 + i * 3, none⟩ = some (.bool false) := d0
          have e1 : W4.cell? ⟨B, 35 + s * 24 + i * 3 + 1, none⟩ = some (.bool false) := d1
          have e2 : W4.cell? ⟨B, 35 + s * 24 + i * 3 + 2, none⟩ = some (.int .u8 0) := d2
          have HIL : Hid (i = (q.sl s).length) := by have := HR.out; have := List.getElem?_eq_none_iff.1 hx; show _ = _; omega
          have HLT : Hid ((q.sl s).length < q.pr) := by rw [← HIL.out]; exact hi
          have f0 := HM.out.frozen (35 + s * 24 + i * 3)
          have f1 := HM.out.frozen (35 + s * 24 + i * 3 + 1)
          have f2 := HM.out.frozen (35 + s * 24 + i * 3 + 2)
          rw [if_pos (HK.out.2.1 HLT.out)] at HV HVL
          clear d0 d1 d2 hx hi hi8
          go_wp2
          go_ret
          rw [HV.out, HVL.out]
          have hmat := mA_slot q s i 1 (q.sl s ++ [(c, k)]) [.bool true, .bool c, .int .u8 (k : Int)] HSL.out (by have := HI8.out; omega) rfl W4 HM.out (fun j f h1 h2 h3 => by
            obtain rfl : j = i := by omega
            rw [HIL.out, List.getElem?_append_right (Nat.le_refl _), Nat.sub_self, Nat.zero_mul, Nat.zero_add]
            match f, h3 with
            | 0, _ => rfl
            | 1, _ => rfl
            | 2, _ => rfl) (fun j f h1 h2 h3 => by
            rcases h2 with h2 | h2
            · rw [List.getElem?_append_left (by rw [← HIL.out]; exact h2)]
            · rw [List.getElem?_eq_none (l := q.sl s ++ [(c, k)]) (by have := HIL.out; rw [List.length_append, List.length_singleton]; omega), List.getElem?_eq_none (by have := HIL.out; omega)])
          have hli := HLI.out.charge HNP.out c (by rw [HSS.out]; exact HLT.out) HLL.out
          rw [HSS.out] at hli
          exact ⟨rfl, ⟨_, hmat, hli, HCF.out, rfl⟩, F4.out.trans (fr_setCells W4 B (35 + s * 24 + i * 3) [.bool true, .bool c, .int .u8 (k : Int)] rfl)⟩
        | some x =>
          rw [hx] at d0 d1 d2
          have e0 : W4.cell? ⟨B, 35 + s * 24 + i * 3, none⟩ = some (.bool true) := d0
          have e1 : W4.cell? ⟨B, 35 + s * 24 + i * 3 + 1, none⟩ = some (.bool x.1) := d1
          have e2 : W4.cell? ⟨B, 35 + s * 24 + i * 3 + 2, none⟩ = some (.int .u8 (x.2 : Int)) := d2
          have HIL : Hid (i < (q.sl s).length) := (List.getElem?_eq_some_iff.1 hx).1
          clear d0 d1 d2 hx hi hi8
          go_wp2
          go_round
          case rel => exact ⟨i + 1, rfl, HIL.out⟩
          case measure =>
            show 8 - (intOf (Value.int .i64 ((i : Int) + 1))).toNat < 8 - (intOf (Value.int .i64 (i : Int))).toNat
            have := HI8.out
            simp only [intOf]
            omega
      · have hlt : ¬ (i : Int) < q.pr := by omega
        have HE : Hid ((q.sl s).length = q.pr) := by have := HR.out; have := HLEN.out; show _ = _; omega
        rw [if_neg (HK.out.2.2 HE.out)] at HV HVL
        clear hi
        go_wp2
        go_ret
        rw [HV.out, HVL.out]
        exact ⟨rfl, ⟨q, HM.out, HLI.out, HCF.out, rfl⟩, F4.out⟩

/-! Budget -/
theorem budget_nil (p : Int) (W : World) : Calls Tryz.prog 31 #[.pointer none, .int .i64 p] W fun e w' => e = .returned (.tuple #[.int .i64 0, .int .i64 0, .int .i64 35]) ∧ W = w' := by
  go_enter Tryz.func31, Tryz.ntmps31
  go_wp2
  go_ret3
  exact ⟨rfl, rfl⟩
def buV (C : CF) (p : Int) : Int × Int × Int := if hasB C.np p = true then (C.bud p.toNat, C.cri p.toNat, 0) else (0, 0, 34)
theorem budget_any {W : World} {B T : Nat} {C : CF} {L : List Ch} (h : MS B C T L W) (p : Int) : Calls Tryz.prog 31 #[.pointer (some ⟨B, 0, none⟩), .int .i64 p] W fun e w' => e = .returned (.tuple #[.int .i64 (buV C p).1, .int .i64 (buV C p).2.1, .int .i64 (buV C p).2.2]) ∧ Fr (fun _ => False) W w' := by
  obtain ⟨q, hm, hL, rfl, rfl⟩ := h
  have HA := Lib.hid (has_any hm p)
  cases hb : hasB q.np p
  · have HV : Hid (buV q.cf p = (0, 0, 34)) := by show _ = _; rw [buV, if_neg (by show ¬ hasB q.np p = true; rw [hb]; simp)]
    rw [HV.out]
    rw [hb] at HA
    clear hm hL hb
    go_enter Tryz.func31, Tryz.ntmps31
    go_wp2_with (go_at_call 78; refine HA.out.mono ?_; rintro e w' ⟨rfl, rfl⟩)
    go_ret3
    exact ⟨rfl, Fr.refl _ _⟩
  · obtain ⟨p0, p1⟩ := (hasB_iff _ _).1 hb
    obtain ⟨k, rfl⟩ : ∃ k : Nat, p = k := ⟨p.toNat, by omega⟩
    have h8 : k < 8 := by have := hL.np1; omega
    have HV : Hid (buV q.cf k = (q.bud k, q.cri k, 0)) := by show _ = _; rw [buV, if_pos (by show hasB q.np k = true; exact hb)]; simp only [Int.toNat_natCast]; rfl
    rw [HV.out]
    rw [hb] at HA
    have c0 := hm.bud k h8
    have c1 := hm.cri k h8
    have k8 : (k : Int) < 8 := by omega
    clear hm hL hb
    go_enter Tryz.func31, Tryz.ntmps31
    go_wp2_with (go_at_call 78; refine HA.out.mono ?_; rintro e w' ⟨rfl, rfl⟩)
    go_region
    go_wp2
    go_ret3
    exact ⟨rfl, Fr.drew _ _⟩

/-! Compare -/
def cmp3 (x y : Int) : Int := if x < y then -1 else if y < x then 1 else 0
theorem isnan_any (x : Int) (W : World) : Calls Tryz.prog 200 #[.int .i64 x] W fun e w' => e = .returned (.bool false) ∧ W = w' := by
  go_enter Tryz.func200, Tryz.ntmps200
  go_wp2
  go_ret
  exact ⟨by simp, rfl⟩
theorem cmp_any (x y : Int) (W : World) : Calls Tryz.prog 193 #[.int .i64 x, .int .i64 y] W fun e w' => e = .returned (.int .i64 (cmp3 x y)) ∧ W = w' := by
  by_cases h1 : x < y
  · have HV : Hid (cmp3 x y = -1) := by show _ = _; rw [cmp3, if_pos h1]
    rw [HV.out]
    go_enter Tryz.func193, Tryz.ntmps193
    go_wp2_with (go_at_call 200; refine (isnan_any _ _).mono ?_; rintro e w' ⟨rfl, rfl⟩)
    go_ret
    exact ⟨rfl, rfl⟩
  · by_cases h2 : y < x
    · have HV : Hid (cmp3 x y = 1) := by show _ = _; rw [cmp3, if_neg h1, if_pos h2]
      rw [HV.out]
      go_enter Tryz.func193, Tryz.ntmps193
      go_wp2_with (go_at_call 200; refine (isnan_any _ _).mono ?_; rintro e w' ⟨rfl, rfl⟩)
      go_ret
      exact ⟨rfl, rfl⟩
    · have HV : Hid (cmp3 x y = 0) := by show _ = _; rw [cmp3, if_neg h1, if_neg h2]
      rw [HV.out]
      go_enter Tryz.func193, Tryz.ntmps193
      go_wp2_with (go_at_call 200; refine (isnan_any _ _).mono ?_; rintro e w' ⟨rfl, rfl⟩)
      go_ret
      exact ⟨rfl, rfl⟩
def cmpV (ba ua bb ub : Int) : Int := if ba = 0 ∨ bb = 0 then cmp3 bb ba else cmp3 (ua * bb) (ub * ba)
theorem mul_small {x y : Int} (hx : 0 ≤ x ∧ x ≤ 100000) (hy : 0 ≤ y ∧ y ≤ 8000) : 0 ≤ x * y ∧ x * y ≤ 800000000 := by
  refine ⟨Int.mul_nonneg hx.1 hy.1, ?_⟩
  calc x * y ≤ 100000 * y := Int.mul_le_mul_of_nonneg_right hx.2 hy.1
    _ ≤ 100000 * 8000 := Int.mul_le_mul_of_nonneg_left hy.2 (by omega)
    _ = 800000000 := by decide
theorem compare2_any (W : World) (ba ca ua va bb cb ub vb : Int) (h1 : 0 ≤ ba ∧ ba ≤ 8000) (h2 : 0 ≤ bb ∧ bb ≤ 8000) (h3 : 0 ≤ ua ∧ ua ≤ 100000) (h4 : 0 ≤ ub ∧ ub ≤ 100000) : Calls Tryz.prog 169 #[.agg #[.int .i64 ba, .int .i64 ca, .int .i64 ua, .int .i64 va], .agg #[.int .i64 bb, .int .i64 cb, .int .i64 ub, .int .i64 vb]] W fun e w' => e = .returned (.int .i64 (cmpV ba ua bb ub)) ∧ Fr (fun _ => False) W w' := by
  have HF : Hid (Fr (fun _ => False) W ((W.alloc (.cells #[.int .i64 ba, .int .i64 ca, .int .i64 ua, .int .i64 va] 143)).alloc (.cells #[.int .i64 bb, .int .i64 cb, .int .i64 ub, .int .i64 vb] 143))) := (Fr.alloc _ _ _).trans (Fr.alloc _ _ _)
  obtain ⟨m1, m2⟩ := mul_small h3 h2
  obtain ⟨m3, m4⟩ := mul_small h4 h1
  by_cases e1 : ba = 0
  · have HV : Hid (cmpV ba ua bb ub = cmp3 bb ba) := by show _ = _; rw [cmpV, if_pos (.inl e1)]
    rw [HV.out]
    have e1' : (ba == 0) = true := by simpa using e1
    clear e1 h1 h2 h3 h4 m1 m2 m3 m4
    go_enter Tryz.func169, Tryz.ntmps169
    go_wp2_with (go_at_call 193; refine (cmp_any _ _ _).mono ?_; rintro e w' ⟨rfl, rfl⟩)
    go_ret
    exact ⟨rfl, HF.out⟩
  · have e1' : (ba == 0) = false := by simpa using e1
    by_cases e2 : bb = 0
    · have HV : Hid (cmpV ba ua bb ub = cmp3 bb ba) := by show _ = _; rw [cmpV, if_pos (.inr e2)]
      rw [HV.out]
      have e2' : (bb == 0) = true := by simpa using e2
      clear e1 e2 h1 h2 h3 h4 m1 m2 m3 m4
      go_enter Tryz.func169, Tryz.ntmps169
      go_wp2_with (go_at_call 193; refine (cmp_any _ _ _).mono ?_; rintro e w' ⟨rfl, rfl⟩)
      go_ret
      exact ⟨rfl, HF.out⟩
    · have HV : Hid (cmpV ba ua bb ub = cmp3 (ua * bb) (ub * ba)) := by show _ = _; rw [cmpV, if_neg (by simp [e1, e2])]
      rw [HV.out]
      have e2' : (bb == 0) = false := by simpa using e2
      clear e1 e2 h1 h2 h3 h4
      go_enter Tryz.func169, Tryz.ntmps169
      go_wp2_with (go_at_call 193; refine (cmp_any _ _ _).mono ?_; rintro e w' ⟨rfl, rfl⟩)
      go_ret
      exact ⟨rfl, HF.out⟩
end Go.Proofs.YtjaaljcdaamcjaaGreat.Pa
