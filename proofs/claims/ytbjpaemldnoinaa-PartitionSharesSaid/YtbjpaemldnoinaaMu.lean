/- PartitionShares: the walk. -/
import Derived.Test.YtbjpaemldnoinaaMt
import Derived.Deep.RegionHeld3
namespace Go.Proofs.Ytbjpaemldnoinaa
open Go.RowKit
set_option linter.unusedVariables false

set_option maxRecDepth 100000 in
set_option maxHeartbeats 1000000 in
theorem shares_bad (W : World) (win pr : Int) (a : Option Addr) (cap : Nat) (P : List (Int × Int)) (hP : PartsIn W a P) (hz : cfgV win pr P ≠ 0) (a1 : Option Addr) (n1 cap1 : Nat) : Calls Try.prog 5 #[.agg #[.int .i64 win, .int .i64 pr, .slice a P.length cap], .slice a1 n1 cap1] W fun e w' => e = .returned (.bool true) ∧ Fr (fun _ => False) W w' := by
  have HF : Hid (Fr (fun _ => False) W (W.alloc (.cells #[.int .i64 win, .int .i64 pr, .slice a P.length cap] 40))) := Fr.alloc _ _ _
  obtain ⟨z, hz1⟩ : ∃ z, cfgV win pr P = z := ⟨_, rfl⟩
  rw [hz1] at hz
  have HC := Lib.hid (pnew_err _ win pr a cap P (hP.fr HF.out (fun _ _ _ => id)) z hz1 hz)
  have hz0 : (z != 0) = true := by simpa using hz
  clear hP hz hz1
  go_enter Try.func5, Try.ntmps5
  go_wp2_with (first
    | (go_at_call 19; refine HC.out.mono ?_; rintro e W2 ⟨rfl, f2⟩; have F2 := Lib.hid f2; clear f2)
    | (go_at_call 18; refine (awake_any _).mono ?_; rintro e W3 ⟨rfl, f3⟩; have F3 := Lib.hid f3; clear f3))
  go_ret
  exact ⟨rfl, HF.out.trans (F2.out.trans F3.out)⟩
set_option maxRecDepth 100000 in
set_option maxHeartbeats 1000000 in
theorem shares_long (W : World) (w p : Nat) (a : Option Addr) (cap : Nat) (P : List (Int × Int)) (hP : PartsIn W a P) (hz : cfgV w p P = 0) (a1 : Option Addr) (n1 cap1 : Nat) (hn : 300 < n1) : Calls Try.prog 5 #[.agg #[.int .i64 (w : Int), .int .i64 (p : Int), .slice a P.length cap], .slice a1 n1 cap1] W fun e w' => e = .returned (.bool true) ∧ Fr (fun _ => False) W w' := by
  have HF : Hid (Fr (fun _ => False) W (W.alloc (.cells #[.int .i64 (w : Int), .int .i64 (p : Int), .slice a P.length cap] 40))) := Fr.alloc _ _ _
  have HC := Lib.hid (pnew_ok _ w p a cap P (hP.fr HF.out (fun _ _ _ => id)) hz)
  have n1' : (300 : Int) < n1 := by omega
  clear hP hz hn
  go_enter Try.func5, Try.ntmps5
  go_wp2_with (first
    | (go_at_call 19; refine HC.out.mono ?_; rintro e W2 ⟨B, rfl, _, _, f2⟩; have F2 := Lib.hid f2; clear f2)
    | (go_at_call 18; refine (awake_any _).mono ?_; rintro e W3 ⟨rfl, f3⟩; have F3 := Lib.hid f3; clear f3))
  go_ret
  exact ⟨rfl, HF.out.trans (F2.out.trans F3.out)⟩


set_option maxRecDepth 100000 in
set_option maxHeartbeats 4000000 in
theorem shares_walk (W : World) (w p : Nat) (a : Option Addr) (cap : Nat) (P : List (Int × Int)) (hP : PartsIn W a P) (hz : cfgV w p P = 0) (a1 : Option Addr) (cap1 : Nat) (gs : List Int) (hn : gs.length ≤ 300) (hg : BytesIn W a1 gs) : Calls Try.prog 5 #[.agg #[.int .i64 (w : Int), .int .i64 (p : Int), .slice a P.length cap], .slice a1 gs.length cap1] W fun e w' => e = .returned (.bool true) ∧ Fr (fun _ => False) W w' := by
  have HF : Hid (Fr (fun _ => False) W (W.alloc (.cells #[.int .i64 (w : Int), .int .i64 (p : Int), .slice a P.length cap] 40))) := Fr.alloc _ _ _
  have HC := Lib.hid (pnew_ok _ w p a cap P (hP.fr HF.out (fun _ _ _ => id)) hz)
  have HR := Lib.hid (RowAt.new W 40 #[.int .i64 (w : Int), .int .i64 (p : Int), .slice a P.length cap])
  have HOK := Lib.hid (cfg_ok hz)
  have HBU := Lib.hid (cfP_ok hz)
  have HG := Lib.hid hg
  have HN := Lib.hid hn
  have n1' : (gs.length : Int) ≤ 300 := by omega
  have l1 : (P.length : Int) ≤ 8 := by have := HOK.out.2.2.2.1; omega
  have l0 : (0 : Int) < P.length := by have := HOK.out.2.2.1; omega
  have HNP : Hid ((cfP w p P).np = P.length ∧ (cfP w p P).pr = p) := ⟨rfl, rfl⟩
  have p0 : (0 : Int) ≤ p := by omega
  have p1 : (p : Int) ≤ 8 := HOK.out.2.1.2
  have HPP : Hid (p ≤ 8) := by show _ ≤ _; omega
  clear hP hz hn hg
  generalize P.length = np at HF HC HR HOK HNP l1 l0 ⊢
  go_enter Try.func5, Try.ntmps5
  go_upto_region 1 with (fail)
  generalize W.alloc _ = W1 at HF HC HR ⊢
  generalize W.heap.size = x at HR ⊢
  have c0 : W1.cell? ⟨x, 0, none⟩ = some (.int .i64 (w : Int)) := HR.out.cell 0
  have c1 : W1.cell? ⟨x, 1, none⟩ = some (.int .i64 (p : Int)) := HR.out.cell 1
  have c2 : W1.cell? ⟨x, 2, none⟩ = some (.slice a np cap) := HR.out.cell 2
  have HCX : Hid (∀ W, Fr (fun _ => False) W1 W → W.cell? ⟨x, 1, none⟩ = some (.int .i64 (p : Int)) ∧ W.cell? ⟨x, 2, none⟩ = some (.slice a np cap)) := fun W f => ⟨(HR.out.fr f id).cell 1, (HR.out.fr f id).cell 2⟩
  go_upto_region 4 with (go_at_call 19; refine HC.out.mono ?_; rintro e W2 ⟨B, rfl, h1, h2, h3⟩; have HS := Lib.hid (PSt.new h1 h2 h3); clear h1 h2 h3)
  clear c0 c1 c2
  generalize cfP w p P = C at HS HNP HBU
  have HPR : Hid (C.pr ≤ 8) := by rw [HNP.out.2]; exact HPP.out
  have HO0 : Hid (OI W1 B C 0 [] W2) := ⟨⟨0, Nat.le_refl _, HS.out⟩, Nat.zero_le _, (fun c hc => nomatch hc), fun j => .inl rfl⟩
  go_wp2
  go_loopw [7] (fun vi wr => ∃ (i : Nat) (L : List Ch), vi = .int .i64 i ∧ Hid (i ≤ gs.length ∧ OI W1 B C i L wr)) (fun vi _ => gs.length - (intOf vi).toNat)
  case atStart => exact ⟨0, [], rfl, Nat.zero_le _, HO0.out⟩
  case round =>
    obtain ⟨i, L, rfl, HQ⟩ := hrel
    have i0 : (0 : Int) ≤ i := by omega
    by_cases hi : i < gs.length
    · have i1 : (i : Int) < gs.length := by omega
      have i2 : (i : Int) < 300 := by have := HN.out; omega
      have HI := Lib.hid hi
      have HI3 : Hid (i ≤ 1000) := by show _ ≤ _; omega
      obtain ⟨b, off, z, rfl, hzz, e0, z0, z1⟩ := HG.out.get (HF.out.trans HQ.out.2.cellEq) hi
      have HBY : Hid (∀ W, Fr (fun _ => False) W1 W → W.cell? ⟨b, off + i, none⟩ = some (.int .u8 z)) := fun W f => by
        obtain ⟨b', off', z', e1, e2, e3, _, _⟩ := HG.out.get (HF.out.trans f) HI.out
        cases e1
        rw [hzz] at e2
        cases e2
        exact e3
      clear hi hzz e0
      go_upto_region 9 with (fail)
      go_wp2
      go_loopw [9, 10] (fun vc vk wr => ∃ (kk ch : Nat) (L' : List Ch), vk = .int .i64 kk ∧ vc = .int .i64 ch ∧ Hid (kk ≤ np ∧ SI W1 B C i ch L' wr)) (fun vc vk _ => np - (intOf vk).toNat)
      case atStart => exact ⟨0, 0, L, rfl, rfl, Nat.zero_le _, HQ.out.2.si⟩
      case round =>
        obtain ⟨kk, ch, L', rfl, rfl, HK⟩ := hrel
        have kk0 : (0 : Int) ≤ kk := by omega
        obtain ⟨d1, c2⟩ := HCX.out _ HK.out.2.cellEq
        by_cases hkk : kk < np
        · have kk1 : (kk : Int) < np := by omega
          have kk8 : (kk : Int) < 8 := by omega
          have HKK := Lib.hid hkk
          have HKN : Hid (kk < C.np) := by rw [HNP.out.1]; exact hkk
          have HE1 := Lib.hid (HK.out.2.has HI3.out HKN.out)
          obtain ⟨hb, hhb⟩ : ∃ hb : Bool, decide ((useL L' C.win i kk : Int) < C.bud kk) = hb := ⟨_, rfl⟩
          rw [hhb] at HE1
          have HHB : Hid (hb = true → (useL L' C.win i kk : Int) < C.bud kk) := fun e => by rw [e] at hhb; exact of_decide_eq_true hhb
          clear hkk hhb
          go_upto_region 15 with (go_at_call 27; refine HE1.out.mono ?_; rintro e W6 ⟨rfl, h6⟩; have H6 := Lib.hid h6; clear h6)
          clear d1 c2 HE1
          have HCH : Hid (∀ W (ch : Nat) (L2 : List Ch), ch < p → hb = true → (useL L2 C.win i kk : Int) < C.bud kk → SI W1 B C i ch L2 W → Calls Try.prog 28 #[.pointer (some ⟨B, 0, none⟩), .int .i64 (i : Int), .int .i64 (kk : Int), .bool false] W fun e W' => e = .returned (.int .i64 0) ∧ SI W1 B C i (ch + 1) (L2 ++ [⟨i, kk, false⟩]) W') := fun W ch L2 hc _ hu h => h.charge HI3.out HKN.out HPR.out (by rw [HNP.out.2]; exact hc) hu
          go_wp2
          go_loopw [9, 13] (fun vc vn wr => ∃ (n ch : Nat) (L2 : List Ch), vn = .int .i64 n ∧ vc = .int .i64 ch ∧ Hid (n ≤ p ∧ useL L2 C.win i kk = useL L' C.win i kk ∧ SI W1 B C i ch L2 wr)) (fun vc vn _ => p - (intOf vn).toNat)
          case atStart => exact ⟨0, ch, L', rfl, rfl, Nat.zero_le _, rfl, H6.out⟩
          case round =>
            obtain ⟨n, ch2, L2, rfl, rfl, HM⟩ := hrel
            have n0 : (0 : Int) ≤ n := by omega
            have ch0 : (0 : Int) ≤ ch2 := by omega
            have ch8 : (ch2 : Int) ≤ 8 := by have := HM.out.2.2.chp; have := HPR.out; omega
            obtain ⟨d1, c2⟩ := HCX.out _ HM.out.2.2.cellEq
            have e0 := HBY.out _ HM.out.2.2.cellEq
            have hex : (¬ (n : Int) < p) ∨ ((n : Int) < p ∧ ¬ (ch2 : Int) < p) ∨ ((n : Int) < p ∧ (ch2 : Int) < p ∧ hb = false) ∨ ((n : Int) < p ∧ (ch2 : Int) < p ∧ hb = true) := by
              by_cases e1 : (n : Int) < p
              · by_cases e2 : (ch2 : Int) < p
                · cases hb
                  · exact .inr (.inr (.inl ⟨e1, e2, rfl⟩))
                  · exact .inr (.inr (.inr ⟨e1, e2, rfl⟩))
                · exact .inr (.inl ⟨e1, e2⟩)
              · exact .inl e1
            have HRL : Hid (∃ (kk_1 ch' : Nat) (L'' : List Ch), Value.int IntKind.i64 ((kk : Int) + 1) = Value.int IntKind.i64 ↑kk_1 ∧ Value.int IntKind.i64 (ch2 : Int) = Value.int IntKind.i64 ↑ch' ∧ Hid (kk_1 ≤ np ∧ SI W1 B C i ch' L'' wr)) := ⟨kk + 1, ch2, L2, by push_cast; rfl, rfl, HKK.out, HM.out.2.2⟩
            have HMS : Hid (np - (intOf (Value.int IntKind.i64 ((kk : Int) + 1))).toNat < np - (intOf (Value.int IntKind.i64 (kk : Int))).toNat) := by
              have := HKK.out
              simp only [intOf]
              show _ < _
              omega
            rcases hex with k1 | ⟨k1, k2⟩ | ⟨k1, k2, k3⟩ | ⟨k1, k2, k3⟩
            · go_wp2
              all_goals go_roundw
              all_goals first | exact HRL.out | exact HMS.out | exact ⟨HRL.out, HMS.out⟩
            · go_wp2
              all_goals go_roundw
              all_goals first | exact HRL.out | exact HMS.out | exact ⟨HRL.out, HMS.out⟩
            · go_wp2
              all_goals go_roundw
              all_goals first | exact HRL.out | exact HMS.out | exact ⟨HRL.out, HMS.out⟩
            · subst k3
              cases hbit : (bits .and .u8 (z / 2 ^ kk) 1 == 1)
              · go_wp2
                all_goals go_roundw
                all_goals first | exact HRL.out | exact HMS.out | exact ⟨HRL.out, HMS.out⟩
              · go_wp2_with (go_at_call 28; refine (HCH.out _ ch2 L2 (by omega) rfl (by rw [HM.out.2.1]; exact HHB.out rfl) HM.out.2.2).mono ?_; rintro e W7 ⟨rfl, h7⟩; have H7 := Lib.hid h7; clear h7)
                go_roundw
                case rel => exact ⟨n + 1, ch2 + 1, L2 ++ [⟨i, kk, false⟩], by push_cast; rfl, by push_cast; rfl, by omega, by rw [use_snoc]; exact HM.out.2.1, H7.out⟩
                case measure =>
                  show _ - (intOf (Value.int IntKind.i64 ((n : Int) + 1))).toNat < _ - (intOf (Value.int IntKind.i64 (n : Int))).toNat
                  simp only [intOf]
                  omega
        · have hlt2 : ¬ (kk : Int) < np := by omega
          have HNI := Lib.hid (HK.out.2.ni HPR.out)
          clear hkk
          go_upto_region 21 with (fail)
          go_wp2
          go_loopw [14] (fun vk wr => ∃ (kj : Nat), vk = .int .i64 kj ∧ Hid (kj ≤ np ∧ NI W1 B C i L' wr)) (fun vk _ => np - (intOf vk).toNat)
          case atStart => exact ⟨0, rfl, Nat.zero_le _, HNI.out⟩
          case round =>
            obtain ⟨kj, rfl, HJ⟩ := hrel
            have kj0 : (0 : Int) ≤ kj := by omega
            obtain ⟨d1, c2⟩ := HCX.out _ HJ.out.2.cellEq
            by_cases hkj : kj < np
            · have kj1 : (kj : Int) < np := by omega
              have HKJ := Lib.hid hkj
              have HJN : Hid (kj < C.np) := by rw [HNP.out.1]; exact hkj
              have HUS := Lib.hid (HJ.out.2.used HI3.out HJN.out)
              have HBB : Hid (∀ W, NI W1 B C i L' W → _) := fun W h => NI.budget (W := W) h HJN.out
              have hA := HJ.out.2.2.2.2 kj
              rw [HNP.out.2] at hA
              have hBd := HBU.out kj
              generalize useL L' C.win (i + 1) kj = us at HUS hA
              generalize C.bud kj = bd at HBB hA hBd
              generalize C.cri kj = cr at HBB hBd
              clear hkj
              have hA2 : (us : Int) ≤ bd + p - 1 ∨ ((bd : Int) + p - 1 < us ∧ ¬ (0 : Int) < us) := by omega
              have hb0 : 0 ≤ bd := by omega
              have hb1 : bd ≤ 8000 := by omega
              rcases hA2 with hA2 | ⟨hA2, hA3⟩
              · go_wp2_with (first
                  | (go_at_call 29; refine HUS.out.mono ?_; rintro e W6 ⟨rfl, h6⟩; have H6 := Lib.hid h6; clear h6)
                  | (go_at_call 25; refine (HBB.out _ H6.out).mono ?_; rintro e W7 ⟨rfl, h7⟩; have H7 := Lib.hid h7; clear h7; have d2 := (HCX.out _ H7.out.cellEq).1))
                all_goals go_roundw
                case rel => exact ⟨kj + 1, by push_cast; rfl, HKJ.out, H7.out⟩
                case measure =>
                  show _ - (intOf (Value.int IntKind.i64 ((kj : Int) + 1))).toNat < _ - (intOf (Value.int IntKind.i64 (kj : Int))).toNat
                  have := HKJ.out
                  simp only [intOf]
                  omega
              · go_wp2_with (first
                  | (go_at_call 29; refine HUS.out.mono ?_; rintro e W6 ⟨rfl, h6⟩; have H6 := Lib.hid h6; clear h6)
                  | (go_at_call 25; refine (HBB.out _ H6.out).mono ?_; rintro e W7 ⟨rfl, h7⟩; have H7 := Lib.hid h7; clear h7; have d2 := (HCX.out _ H7.out.cellEq).1))
                all_goals go_roundw
                case rel => exact ⟨kj + 1, by push_cast; rfl, HKJ.out, H7.out⟩
                case measure =>
                  show _ - (intOf (Value.int IntKind.i64 ((kj : Int) + 1))).toNat < _ - (intOf (Value.int IntKind.i64 (kj : Int))).toNat
                  have := HKJ.out
                  simp only [intOf]
                  omega
            · have hlt3 : ¬ (kj : Int) < np := by omega
              clear hkj
              go_wp2
              go_roundw
              case rel => exact ⟨i + 1, L', by push_cast; rfl, HI.out, HJ.out.2.oi⟩
              case measure =>
                show _ - (intOf (Value.int IntKind.i64 ((i : Int) + 1))).toNat < _ - (intOf (Value.int IntKind.i64 (i : Int))).toNat
                have := HI.out
                simp only [intOf]
                omega
    · have hlt : ¬ (i : Int) < gs.length := by omega
      clear hi
      go_wp2_with (go_at_call 18; refine (awake_any _).mono ?_; rintro e W3 ⟨rfl, f3⟩; have F3 := Lib.hid f3; clear f3)
      go_ret
      exact ⟨rfl, HF.out.trans (HQ.out.2.cellEq.trans F3.out)⟩
end Go.Proofs.Ytbjpaemldnoinaa
