/- PartitionForgets: plain, and the walk. -/
import Derived.Test.YtbjpaemldnoinaaMo
import Derived.Deep.RegionHeld3
namespace Go.Proofs.Ytbjpaemldnoinaa
open Go.RowKit
set_option linter.unusedVariables false

theorem window_count {L : List Ch} {pr : Nat} (h : ∀ t, (L.countP fun c => c.t == t) ≤ pr) (lo : Nat) : ∀ m, (L.countP fun c => decide (lo ≤ c.t) && decide (c.t < lo + m)) ≤ m * pr
  | 0 => by
    have : (L.countP fun c => decide (lo ≤ c.t) && decide (c.t < lo + 0)) = 0 := List.countP_eq_zero.2 fun c _ hp => by
      simp only [Bool.and_eq_true, decide_eq_true_eq] at hp
      omega
    omega
  | m + 1 => by
    have h1 := window_count h lo m
    have h2 := h (lo + m)
    have := count4 (L := L) (f1 := fun c => decide (lo ≤ c.t) && decide (c.t < lo + (m + 1))) (f2 := fun _ => false) (g1 := fun c => decide (lo ≤ c.t) && decide (c.t < lo + m)) (g2 := fun c => c.t == lo + m) (fun c _ => by
      simp only [Bool.and_eq_true, beq_iff_eq, decide_eq_true_eq]
      split <;> split <;> split <;> simp_all <;> omega)
    have h3 : L.countP (fun _ => false) = 0 := List.countP_eq_zero.2 fun c _ hp => by cases hp
    rw [h3] at this
    rw [Nat.add_mul, Nat.one_mul]
    omega
def winL (L : List Ch) (w T : Nat) : Nat := L.countP fun c => decide (T < c.t + w) && decide (c.t < T)
theorem winL_le {L : List Ch} {pr : Nat} (h : ∀ t, (L.countP fun c => c.t == t) ≤ pr) (w T : Nat) : winL L w T ≤ w * pr := by
  refine Nat.le_trans (countP_le fun c _ hp => ?_) (window_count h (T + 1 - w) w)
  simp only [Bool.and_eq_true, decide_eq_true_eq] at hp ⊢
  omega
def sumU (L : List Ch) (w T : Nat) : Nat → Nat
  | 0 => 0
  | n + 1 => sumU L w T n + useL L w T n
theorem sumU_eq (L : List Ch) (w T : Nat) : ∀ n, sumU L w T n = L.countP fun c => decide (c.p < n) && (decide (T < c.t + w) && decide (c.t < T))
  | 0 => by
    have : (L.countP fun c => decide (c.p < 0) && (decide (T < c.t + w) && decide (c.t < T))) = 0 := List.countP_eq_zero.2 fun c _ hp => by
      simp only [Bool.and_eq_true, decide_eq_true_eq] at hp
      omega
    rw [this]; rfl
  | n + 1 => by
    rw [sumU, sumU_eq L w T n, useL]
    have := count4 (L := L) (f1 := fun c => decide (c.p < n) && (decide (T < c.t + w) && decide (c.t < T))) (f2 := fun c => c.p == n && (decide (T < c.t + w) && decide (c.t < T))) (g1 := fun c => decide (c.p < n + 1) && (decide (T < c.t + w) && decide (c.t < T))) (g2 := fun _ => false) (fun c _ => by
      simp only [Bool.and_eq_true, beq_iff_eq, decide_eq_true_eq]
      split <;> split <;> split <;> simp_all <;> omega)
    have h3 : L.countP (fun _ => false) = 0 := List.countP_eq_zero.2 fun c _ hp => by cases hp
    rw [h3] at this
    omega
theorem sumU_le {L : List Ch} {pr : Nat} (h : ∀ t, (L.countP fun c => c.t == t) ≤ pr) (w T n : Nat) : sumU L w T n ≤ w * pr := by
  rw [sumU_eq]
  refine Nat.le_trans (countP_le fun c _ hp => ?_) (winL_le h w T)
  simp only [Bool.and_eq_true] at hp ⊢
  exact hp.2
theorem ucr_le (L : List Ch) (w T k : Nat) : ucrL L w T k ≤ useL L w T k := countP_le fun c _ hp => by
  simp only [Bool.and_eq_true] at hp ⊢
  exact hp.2
theorem PSt.facts {W1 W : World} {B T : Nat} {C : CF} {L : List Ch} (h : PSt W1 B C T L W) : (∀ t, (L.countP fun c => c.t == t) ≤ C.pr) ∧ (∀ c ∈ L, c.t ≤ T) ∧ 0 < C.pr := by
  obtain ⟨⟨q, _, hL, rfl, rfl⟩, _⟩ := h
  exact ⟨hL.few, fun c hc => (hL.tm c hc).1, hL.pr0⟩
theorem use_old {L : List Ch} {w T T' : Nat} (h : ∀ c ∈ L, c.t ≤ T) (hT : T + w < T') (k : Nat) : useL L w T' k = 0 := List.countP_eq_zero.2 fun c hc hp => by
  simp only [Bool.and_eq_true, decide_eq_true_eq] at hp
  have := h c hc
  omega
theorem nowL_pos {L : List Ch} {n : Nat} (h : 0 < nowL L n) : ∃ c ∈ L, c.t = n := by
  obtain ⟨c, hc, hp⟩ := List.countP_pos_iff.1 h
  exact ⟨c, hc, by simpa using hp⟩
set_option maxRecDepth 100000 in
set_option maxHeartbeats 1000000 in
theorem forgets_bad (W : World) (win pr : Int) (a : Option Addr) (cap : Nat) (P : List (Int × Int)) (hP : PartsIn W a P) (hz : cfgV win pr P ≠ 0) (a1 : Option Addr) (n1 cap1 : Nat) : Calls Try.prog 6 #[.agg #[.int .i64 win, .int .i64 pr, .slice a P.length cap], .slice a1 n1 cap1] W fun e w' => e = .returned (.bool true) ∧ Fr (fun _ => False) W w' := by
  have HF : Hid (Fr (fun _ => False) W (W.alloc (.cells #[.int .i64 win, .int .i64 pr, .slice a P.length cap] 40))) := Fr.alloc _ _ _
  obtain ⟨z, hz1⟩ : ∃ z, cfgV win pr P = z := ⟨_, rfl⟩
  rw [hz1] at hz
  have HC := Lib.hid (pnew_err _ win pr a cap P (hP.fr HF.out (fun _ _ _ => id)) z hz1 hz)
  have hz0 : (z != 0) = true := by simpa using hz
  clear hP hz hz1
  go_enter Try.func6, Try.ntmps6
  go_wp2_with (first
    | (go_at_call 19; refine HC.out.mono ?_; rintro e W2 ⟨rfl, f2⟩; have F2 := Lib.hid f2; clear f2)
    | (go_at_call 18; refine (awake_any _).mono ?_; rintro e W3 ⟨rfl, f3⟩; have F3 := Lib.hid f3; clear f3))
  go_ret
  exact ⟨rfl, HF.out.trans (F2.out.trans F3.out)⟩
set_option maxRecDepth 100000 in
set_option maxHeartbeats 1000000 in
theorem forgets_long (W : World) (w p : Nat) (a : Option Addr) (cap : Nat) (P : List (Int × Int)) (hP : PartsIn W a P) (hz : cfgV w p P = 0) (a1 : Option Addr) (n1 cap1 : Nat) (hn : 200 < n1) : Calls Try.prog 6 #[.agg #[.int .i64 (w : Int), .int .i64 (p : Int), .slice a P.length cap], .slice a1 n1 cap1] W fun e w' => e = .returned (.bool true) ∧ Fr (fun _ => False) W w' := by
  have HF : Hid (Fr (fun _ => False) W (W.alloc (.cells #[.int .i64 (w : Int), .int .i64 (p : Int), .slice a P.length cap] 40))) := Fr.alloc _ _ _
  have HC := Lib.hid (pnew_ok _ w p a cap P (hP.fr HF.out (fun _ _ _ => id)) hz)
  have n1' : (200 : Int) < n1 := by omega
  clear hP hz hn
  go_enter Try.func6, Try.ntmps6
  go_wp2_with (first
    | (go_at_call 19; refine HC.out.mono ?_; rintro e W2 ⟨B, rfl, _, _, f2⟩; have F2 := Lib.hid f2; clear f2)
    | (go_at_call 18; refine (awake_any _).mono ?_; rintro e W3 ⟨rfl, f3⟩; have F3 := Lib.hid f3; clear f3))
  go_ret
  exact ⟨rfl, HF.out.trans (F2.out.trans F3.out)⟩


set_option maxRecDepth 100000 in
set_option maxHeartbeats 4000000 in
theorem forgets_walk (W : World) (w p : Nat) (a : Option Addr) (cap : Nat) (P : List (Int × Int)) (hP : PartsIn W a P) (hz : cfgV w p P = 0) (a1 : Option Addr) (cap1 : Nat) (gs : List Int) (hn : gs.length ≤ 200) (hg : BytesIn W a1 gs) : Calls Try.prog 6 #[.agg #[.int .i64 (w : Int), .int .i64 (p : Int), .slice a P.length cap], .slice a1 gs.length cap1] W fun e w' => e = .returned (.bool true) ∧ Fr (fun _ => False) W w' := by
  have HF : Hid (Fr (fun _ => False) W (W.alloc (.cells #[.int .i64 (w : Int), .int .i64 (p : Int), .slice a P.length cap] 40))) := Fr.alloc _ _ _
  have HC := Lib.hid (pnew_ok _ w p a cap P (hP.fr HF.out (fun _ _ _ => id)) hz)
  have HR := Lib.hid (RowAt.new W 40 #[.int .i64 (w : Int), .int .i64 (p : Int), .slice a P.length cap])
  have HOK := Lib.hid (cfg_ok hz)
  have HG := Lib.hid hg
  have HN := Lib.hid hn
  have n1' : (gs.length : Int) ≤ 200 := by omega
  have l1 : (P.length : Int) ≤ 8 := by have := HOK.out.2.2.2.1; omega
  have l0 : (0 : Int) < P.length := by have := HOK.out.2.2.1; omega
  have HNP : Hid ((cfP w p P).np = P.length ∧ (cfP w p P).win = w ∧ (cfP w p P).pr = p) := ⟨rfl, rfl, rfl⟩
  have m1 : 0 ≤ (w : Int) * p := Int.mul_nonneg (by omega) (by omega)
  have m2 : (w : Int) * p ≤ 8000 := by
    have h1 := HOK.out.1
    have h2 := HOK.out.2.1
    calc (w : Int) * p ≤ 1000 * p := Int.mul_le_mul_of_nonneg_right h1.2 (by omega)
      _ ≤ 1000 * 8 := Int.mul_le_mul_of_nonneg_left h2.2 (by omega)
      _ = 8000 := by decide
  have w0 : (0 : Int) ≤ w := by omega
  have w1 : (w : Int) ≤ 1000 := HOK.out.1.2
  have p0 : (0 : Int) ≤ p := by omega
  have p1 : (p : Int) ≤ 8 := HOK.out.2.1.2
  clear hP hz hn hg
  generalize P.length = np at HF HC HR HOK HNP l1 l0 ⊢
  go_enter Try.func6, Try.ntmps6
  go_upto_region 1 with (fail)
  generalize W.alloc _ = W1 at HF HC HR ⊢
  generalize W.heap.size = x at HR ⊢
  have c0 : W1.cell? ⟨x, 0, none⟩ = some (.int .i64 (w : Int)) := HR.out.cell 0
  have c1 : W1.cell? ⟨x, 1, none⟩ = some (.int .i64 (p : Int)) := HR.out.cell 1
  have c2 : W1.cell? ⟨x, 2, none⟩ = some (.slice a np cap) := HR.out.cell 2
  have HX : Hid (x < W1.heap.size) := HR.out.lt
  have HCX : Hid (∀ B C T L W, PSt W1 B C T L W → W.cell? ⟨x, 0, none⟩ = some (.int .i64 (w : Int)) ∧ W.cell? ⟨x, 1, none⟩ = some (.int .i64 (p : Int)) ∧ W.cell? ⟨x, 2, none⟩ = some (.slice a np cap)) := fun B C T L W h => ⟨(h.cell HX.out 0).trans c0, (h.cell HX.out 1).trans c1, (h.cell HX.out 2).trans c2⟩
  go_upto_region 4 with (go_at_call 19; refine HC.out.mono ?_; rintro e W2 ⟨B, rfl, h1, h2, h3⟩; have HS := Lib.hid (PSt.new h1 h2 h3); clear h1 h2 h3)
  clear c0 c1 c2
  generalize cfP w p P = C at HS HNP
  go_wp2
  go_loopw [7, 8] (fun vl vi wr => ∃ (i T : Nat) (L : List Ch), vi = .int .i64 i ∧ vl = .int .i64 T ∧ Hid (i ≤ gs.length ∧ T ≤ i / 2 ∧ L.length ≤ i ∧ PSt W1 B C T L wr)) (fun vl vi _ => gs.length - (intOf vi).toNat)
  case atStart => exact ⟨0, 0, [], rfl, rfl, Nat.zero_le _, Nat.le_refl _, Nat.le_refl _, HS.out⟩
  case round =>
    obtain ⟨i, T, L, rfl, rfl, HQ⟩ := hrel
    have i0 : (0 : Int) ≤ i := by omega
    by_cases hi : i < gs.length
    · have i1 : (i : Int) < gs.length := by omega
      have i2 : (i : Int) < 200 := by have := HN.out; omega
      have HI := Lib.hid hi
      obtain ⟨b, off, z, rfl, hzz, e0, z0, z1⟩ := HG.out.get (HF.out.trans HQ.out.2.2.2.fr0) hi
      have c2 : wr.cell? ⟨x, 2, none⟩ = some (.slice a np cap) := (HCX.out _ _ _ _ _ HQ.out.2.2.2).2.2
      obtain ⟨k, hk⟩ : ∃ k : Nat, z % (np : Int) = k := ⟨(z % (np : Int)).toNat, by have := Int.emod_nonneg z (show (np : Int) ≠ 0 by omega); omega⟩
      have lnn : ¬ np = 0 := by omega
      have htk : z.tmod (np : Int) = k := by rw [Int.tmod_eq_emod_of_nonneg z0]; exact hk
      have HKW : Hid ((IntKind.i64.wrap z).tmod (np : Int) = k) := by show _ = _; rw [IntWalk.i64_in z (by omega)]; exact htk
      have hk8 : k < C.np := by rw [HNP.out.1]; have := Int.emod_lt_of_pos z l0; omega
      obtain ⟨m, hm⟩ : ∃ m : Nat, m = i / 2 := ⟨_, rfl⟩
      have hmi : (i : Int) / 2 = m := by omega
      have m0 : (0 : Int) ≤ m := by omega
      have m3 : (m : Int) < 100 := by omega
      have HMM := Lib.hid hm
      obtain ⟨c, hc⟩ : ∃ c : Bool, decide (127 < z) = c := ⟨_, rfl⟩
      have HCH := Lib.hid ((HQ.out.2.2.2.rest (Fr.drew (fun _ => False) wr)).charge m k c (by have := HQ.out.2.1; omega) (by omega) hk8 (by have := HQ.out.2.2.1; omega))
      have HCB := Lib.hid hc
      clear hc
      have HKC : Hid (∀ L' W5, PSt W1 B C m L' W5 → W5.cell? ⟨b, off + i, none⟩ = some (.int .u8 z) ∧ W5.cell? ⟨x, 2, none⟩ = some (.slice a np cap)) := fun L' W5 h => ⟨by
        obtain ⟨b', off', z', e1, e2, e3, _, _⟩ := HG.out.get (HF.out.trans h.fr0) HI.out
        cases e1
        rw [hzz] at e2
        cases e2
        exact e3, (HCX.out _ _ _ _ _ h).2.2⟩
      have hcase : (nowL L m < C.pr) ∨ (¬ nowL L m < C.pr ∧ m = T) := by
        by_cases e : nowL L m < C.pr
        · exact .inl e
        · refine .inr ⟨e, ?_⟩
          have hf := HQ.out.2.2.2.facts
          obtain ⟨c, hc, ht⟩ := nowL_pos (L := L) (n := m) (by have := hf.2.2; omega)
          have := hf.2.1 c hc
          have := HQ.out.2.1
          omega
      have HLL : Hid ((if nowL L m < C.pr then L ++ [⟨m, k, c⟩] else L).length ≤ i + 1) := by
        have := HQ.out.2.2.1
        show _ ≤ _
        split
        · rw [List.length_append]; simp; omega
        · omega
      generalize (if nowL L m < C.pr then L ++ [⟨m, k, c⟩] else L) = L' at HCH HLL
      clear hi hzz hk8 hm
      rcases hcase with hw | ⟨hw, rfl⟩
      all_goals
        first | rw [if_pos hw] at HCH | rw [if_neg hw] at HCH
        clear hw
        go_upto_region 9 with (fail)
        go_region_held3 (fun w' => w'.cell? ⟨b, off + i, none⟩ = some (.int .u8 z) ∧ w'.cell? ⟨x, 2, none⟩ = some (.slice a np cap))
          (first | (with_reducible exact HKC.out _ _ M2.out) | exact ⟨e0, c2⟩ | go_keep)
          (first | (go_at_call 28; rw [HKW.out]; (try rw [HCB.out]); refine HCH.out.mono ?_; rintro e W5 ⟨rfl, m2⟩; have M2 := Lib.hid m2; clear m2))
        have HU : Hid (∀ W kk, kk < np → PSt W1 B C m L' W → Calls Try.prog 29 #[.pointer (some ⟨B, 0, none⟩), .int .i64 (m : Int), .int .i64 (kk : Int)] W fun e W' => e = .returned (.tuple #[.int .i64 (useL L' w m kk : Nat), .int .i64 0]) ∧ PSt W1 B C m L' W') := fun W kk hk h => by
          have := h.used m kk (Nat.le_refl _) (by omega) (by rw [HNP.out.1]; exact hk)
          rw [HNP.out.2.1] at this
          exact this
        have HV : Hid (∀ W kk, kk < np → PSt W1 B C m L' W → Calls Try.prog 30 #[.pointer (some ⟨B, 0, none⟩), .int .i64 (m : Int), .int .i64 (kk : Int)] W fun e W' => e = .returned (.tuple #[.int .i64 (ucrL L' w m kk : Nat), .int .i64 0]) ∧ PSt W1 B C m L' W') := fun W kk hk h => by
          have := h.ucrit m kk (Nat.le_refl _) (by omega) (by rw [HNP.out.1]; exact hk)
          rw [HNP.out.2.1] at this
          exact this
        have HSU : Hid (∀ n, sumU L' w m n ≤ w * p) := fun n => by
          have := sumU_le (M2.out.facts.1) w m n
          rw [HNP.out.2.2] at this
          exact this
        clear e0 c2 HCH
        go_upto_region 12 with (fail)
        go_wp2
        go_loopw [10, 11] (fun vs vk wr => ∃ kk : Nat, vk = .int .i64 kk ∧ vs = .int .i64 (sumU L' w m kk : Nat) ∧ Hid (kk ≤ np ∧ PSt W1 B C m L' wr)) (fun vs vk _ => np - (intOf vk).toNat)
        case atStart => exact ⟨0, rfl, rfl, Nat.zero_le _, M2.out⟩
        case round =>
          obtain ⟨kk, rfl, rfl, HK⟩ := hrel
          have kk0 : (0 : Int) ≤ kk := by omega
          obtain ⟨d0, d1, c2⟩ := HCX.out _ _ _ _ _ HK.out.2
          by_cases hkk : kk < np
          · have kk1 : (kk : Int) < np := by omega
            have HKK := Lib.hid hkk
            have HE1 := Lib.hid (HU.out _ kk hkk HK.out.2)
            have HE2 := Lib.hid (fun W h => HV.out W kk hkk h)
            have huv : (ucrL L' w m kk : Int) ≤ (useL L' w m kk : Nat) := by have := ucr_le L' w m kk; omega
            have hs1 : ((sumU L' w m kk : Nat) : Int) + (useL L' w m kk : Nat) ≤ 8000 := by
              have := HSU.out (kk + 1)
              rw [sumU] at this
              have e : ((w * p : Nat) : Int) = (w : Int) * p := by push_cast; rfl
              omega
            have HSS : Hid (((sumU L' w m (kk + 1) : Nat) : Int) = ((sumU L' w m kk : Nat) : Int) + (useL L' w m kk : Nat)) := by show _ = _; rw [sumU]; push_cast; rfl
            clear hkk
            generalize useL L' w m kk = u at HE1 huv hs1 HSS
            generalize ucrL L' w m kk = v at HE2 huv
            generalize sumU L' w m kk = s at hs1 HSS ⊢
            have s0 : (0 : Int) ≤ s := by omega
            have u0 : (0 : Int) ≤ u := by omega
            have n3 : ¬ (u : Int) < v := by omega
            go_wp2_with (first
              | (go_at_call 29; refine HE1.out.mono ?_; rintro e W6 ⟨rfl, h6⟩; have H6 := Lib.hid h6; clear h6)
              | (go_at_call 30; refine (HE2.out _ H6.out).mono ?_; rintro e W7 ⟨rfl, h7⟩; have H7 := Lib.hid h7; clear h7))
            go_roundw
            case rel => exact ⟨kk + 1, rfl, by rw [HSS.out], HKK.out, H7.out⟩
            case measure =>
              have := HKK.out
              show np - (intOf (Value.int .i64 ((kk : Int) + 1))).toNat < np - (intOf (Value.int .i64 (kk : Int))).toNat
              simp only [intOf]
              omega
          · have hlt2 : ¬ (kk : Int) < np := by omega
            have hsw : ¬ (w : Int) * p < (sumU L' w m kk : Nat) := by
              have := HSU.out kk
              have e : ((w * p : Nat) : Int) = (w : Int) * p := by push_cast; rfl
              omega
            clear hkk
            go_wp2
            go_roundw
            case rel => exact ⟨i + 1, m, L', rfl, rfl, HI.out, by have := HMM.out; omega, HLL.out, HK.out.2⟩
            case measure =>
              have := HI.out
              show gs.length - (intOf (Value.int .i64 ((i : Int) + 1))).toNat < gs.length - (intOf (Value.int .i64 (i : Int))).toNat
              simp only [intOf]
              omega
    · have hlt : ¬ (i : Int) < gs.length := by omega
      have HT : Hid (T ≤ 200) := by have := HQ.out.2.1; have := HQ.out.1; have := HN.out; show _ ≤ _; omega
      have T0 : (0 : Int) ≤ T := by omega
      have T1 : (T : Int) ≤ 200 := by have := HT.out; omega
      have HOLD := Lib.hid HQ.out.2.2.2.facts.2.1
      have HU : Hid (∀ W kk, kk < np → (∃ T1, T1 ≤ T + 1 + w ∧ PSt W1 B C T1 L W) → Calls Try.prog 29 #[.pointer (some ⟨B, 0, none⟩), .int .i64 ((T : Int) + 1 + w), .int .i64 (kk : Int)] W fun e W' => e = .returned (.tuple #[.int .i64 0, .int .i64 0]) ∧ ∃ T1, T1 ≤ T + 1 + w ∧ PSt W1 B C T1 L W') := fun W kk hk ⟨T1, ht1, h⟩ => by
        have := h.used (T + 1 + w) kk ht1 (by have := HT.out; omega) (by rw [HNP.out.1]; exact hk)
        rw [HNP.out.2.1, use_old HOLD.out (by omega)] at this
        have e : ((T + 1 + w : Nat) : Int) = (T : Int) + 1 + w := by push_cast; rfl
        rw [e] at this
        exact this.mono fun e W' ⟨he, hp⟩ => ⟨he, _, Nat.le_refl _, hp⟩
      clear hi
      go_upto_region 22 with (fail)
      go_wp2
      go_loopw [16] (fun vk wr => ∃ kk : Nat, vk = .int .i64 kk ∧ Hid (kk ≤ np ∧ ∃ T1, T1 ≤ T + 1 + w ∧ PSt W1 B C T1 L wr)) (fun vk _ => np - (intOf vk).toNat)
      case atStart => exact ⟨0, rfl, Nat.zero_le _, T, by omega, HQ.out.2.2.2⟩
      case round =>
        obtain ⟨kk, rfl, HK⟩ := hrel
        have kk0 : (0 : Int) ≤ kk := by omega
        obtain ⟨d0, d1, c2⟩ : wr.cell? ⟨x, 0, none⟩ = some (.int .i64 (w : Int)) ∧ wr.cell? ⟨x, 1, none⟩ = some (.int .i64 (p : Int)) ∧ wr.cell? ⟨x, 2, none⟩ = some (.slice a np cap) := by obtain ⟨_, T1, _, h⟩ := HK.out; exact HCX.out _ _ _ _ _ h
        by_cases hkk : kk < np
        · have kk1 : (kk : Int) < np := by omega
          have HKK := Lib.hid hkk
          have HE1 := Lib.hid (HU.out _ kk hkk HK.out.2)
          clear hkk
          go_wp2_with (go_at_call 29; refine HE1.out.mono ?_; rintro e W6 ⟨rfl, h6⟩; have H6 := Lib.hid h6; clear h6)
          go_roundw
          case rel => exact ⟨kk + 1, rfl, HKK.out, H6.out⟩
          case measure =>
            have := HKK.out
            show np - (intOf (Value.int .i64 ((kk : Int) + 1))).toNat < np - (intOf (Value.int .i64 (kk : Int))).toNat
            simp only [intOf]
            omega
        · have hlt2 : ¬ (kk : Int) < np := by omega
          clear hkk
          go_wp2_with (go_at_call 18; refine (awake_any _).mono ?_; rintro e W3 ⟨rfl, f3⟩; have F3 := Lib.hid f3; clear f3)
          go_ret
          obtain ⟨_, T1, _, h⟩ := HK.out
          exact ⟨rfl, HF.out.trans (h.fr0.trans F3.out)⟩
end Go.Proofs.Ytbjpaemldnoinaa
