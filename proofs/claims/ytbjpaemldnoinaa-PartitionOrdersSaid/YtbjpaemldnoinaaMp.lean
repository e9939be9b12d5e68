/- PartitionOrders: the walk. -/
import Derived.Test.YtbjpaemldnoinaaMo
import Derived.Deep.RegionHeld3
namespace Go.Proofs.Ytbjpaemldnoinaa
open Go.RowKit
set_option linter.unusedVariables false

set_option maxRecDepth 100000 in
set_option maxHeartbeats 1000000 in
theorem orders_bad (W : World) (win pr : Int) (a : Option Addr) (cap : Nat) (P : List (Int × Int)) (hP : PartsIn W a P) (hz : cfgV win pr P ≠ 0) (a1 : Option Addr) (n1 cap1 : Nat) : Calls Try.prog 7 #[.agg #[.int .i64 win, .int .i64 pr, .slice a P.length cap], .slice a1 n1 cap1] W fun e w' => e = .returned (.bool true) ∧ Fr (fun _ => False) W w' := by
  have HF : Hid (Fr (fun _ => False) W (W.alloc (.cells #[.int .i64 win, .int .i64 pr, .slice a P.length cap] 40))) := Fr.alloc _ _ _
  obtain ⟨z, hz1⟩ : ∃ z, cfgV win pr P = z := ⟨_, rfl⟩
  rw [hz1] at hz
  have HC := Lib.hid (pnew_err _ win pr a cap P (hP.fr HF.out (fun _ _ _ => id)) z hz1 hz)
  have hz0 : (z != 0) = true := by simpa using hz
  clear hP hz hz1
  go_enter Try.func7, Try.ntmps7
  go_wp2_with (first
    | (go_at_call 19; refine HC.out.mono ?_; rintro e W2 ⟨rfl, f2⟩; have F2 := Lib.hid f2; clear f2)
    | (go_at_call 18; refine (awake_any _).mono ?_; rintro e W3 ⟨rfl, f3⟩; have F3 := Lib.hid f3; clear f3))
  go_ret
  exact ⟨rfl, HF.out.trans (F2.out.trans F3.out)⟩
set_option maxRecDepth 100000 in
set_option maxHeartbeats 1000000 in
theorem orders_long (W : World) (w p : Nat) (a : Option Addr) (cap : Nat) (P : List (Int × Int)) (hP : PartsIn W a P) (hz : cfgV w p P = 0) (a1 : Option Addr) (n1 cap1 : Nat) (hn : 100 < n1) : Calls Try.prog 7 #[.agg #[.int .i64 (w : Int), .int .i64 (p : Int), .slice a P.length cap], .slice a1 n1 cap1] W fun e w' => e = .returned (.bool true) ∧ Fr (fun _ => False) W w' := by
  have HF : Hid (Fr (fun _ => False) W (W.alloc (.cells #[.int .i64 (w : Int), .int .i64 (p : Int), .slice a P.length cap] 40))) := Fr.alloc _ _ _
  have HC := Lib.hid (pnew_ok _ w p a cap P (hP.fr HF.out (fun _ _ _ => id)) hz)
  have n1' : (100 : Int) < n1 := by omega
  clear hP hz hn
  go_enter Try.func7, Try.ntmps7
  go_wp2_with (first
    | (go_at_call 19; refine HC.out.mono ?_; rintro e W2 ⟨B, rfl, _, _, f2⟩; have F2 := Lib.hid f2; clear f2)
    | (go_at_call 18; refine (awake_any _).mono ?_; rintro e W3 ⟨rfl, f3⟩; have F3 := Lib.hid f3; clear f3))
  go_ret
  exact ⟨rfl, HF.out.trans (F2.out.trans F3.out)⟩

/-- The loops' worlds: some time that is not behind n, the charges L. -/
def LoI (W1 : World) (B : Nat) (C : CF) (n : Nat) (L : List Ch) (W : World) : Prop := ∃ T, T ≤ n ∧ PSt W1 B C T L W
theorem LoI.comp {W1 W : World} {B n : Nat} {C : CF} {L : List Ch} (h : LoI W1 B C n L W) (hC : BudOk C) (hn : n ≤ 1099511627776) (a b : Nat) (ha : a < C.np) (hb : b < C.np) : Calls Try.prog 31 #[.pointer (some ⟨B, 0, none⟩), .int .i64 (n : Int), .int .i64 (a : Int), .int .i64 (b : Int)] W fun e W' => e = .returned (.tuple #[.int .i64 (cmpV (C.bud a) (useL L C.win n a : Nat) (C.bud b) (useL L C.win n b : Nat)), .int .i64 0]) ∧ LoI W1 B C n L W' := by
  obtain ⟨T, hT, h⟩ := h
  exact (h.comp hC n a b hT hn ha hb).mono fun e W' ⟨he, h⟩ => ⟨he, n, Nat.le_refl _, h⟩
theorem LoI.cell {W1 W : World} {B n : Nat} {C : CF} {L : List Ch} (h : LoI W1 B C n L W) {k : Nat} (hk : k < W1.heap.size) (o : Nat) : W.cell? ⟨k, o, none⟩ = W1.cell? ⟨k, o, none⟩ := by obtain ⟨T, _, h⟩ := h; exact h.cell hk o
theorem LoI.fr0 {W1 W : World} {B n : Nat} {C : CF} {L : List Ch} (h : LoI W1 B C n L W) : Fr (fun _ => False) W1 W := by obtain ⟨T, _, h⟩ := h; exact h.fr0

set_option maxRecDepth 100000 in
set_option maxHeartbeats 4000000 in
theorem orders_walk (W : World) (w p : Nat) (a : Option Addr) (cap : Nat) (P : List (Int × Int)) (hP : PartsIn W a P) (hz : cfgV w p P = 0) (a1 : Option Addr) (cap1 : Nat) (gs : List Int) (hn : gs.length ≤ 100) (hg : BytesIn W a1 gs) : Calls Try.prog 7 #[.agg #[.int .i64 (w : Int), .int .i64 (p : Int), .slice a P.length cap], .slice a1 gs.length cap1] W fun e w' => e = .returned (.bool true) ∧ Fr (fun _ => False) W w' := by
  have HF : Hid (Fr (fun _ => False) W (W.alloc (.cells #[.int .i64 (w : Int), .int .i64 (p : Int), .slice a P.length cap] 40))) := Fr.alloc _ _ _
  have HC := Lib.hid (pnew_ok _ w p a cap P (hP.fr HF.out (fun _ _ _ => id)) hz)
  have HR := Lib.hid (RowAt.new W 40 #[.int .i64 (w : Int), .int .i64 (p : Int), .slice a P.length cap])
  have HBU := Lib.hid (cfP_ok hz)
  have HOK := Lib.hid (cfg_ok hz)
  have HG := Lib.hid hg
  have HN := Lib.hid hn
  have n1' : (gs.length : Int) ≤ 100 := by omega
  have l1 : (P.length : Int) ≤ 8 := by have := HOK.out.2.2.2.1; omega
  have l0 : (0 : Int) < P.length := by have := HOK.out.2.2.1; omega
  have HNP0 : Hid ((cfP w p P).np = P.length) := rfl
  clear hP hz hn hg
  generalize P.length = np at HF HC HR HOK HNP0 l1 l0 ⊢
  go_enter Try.func7, Try.ntmps7
  go_upto_region 1 with (fail)
  generalize W.alloc _ = W1 at HF HC HR ⊢
  generalize W.heap.size = x at HR ⊢
  have c0 : W1.cell? ⟨x, 0, none⟩ = some (.int .i64 (w : Int)) := HR.out.cell 0
  have c1 : W1.cell? ⟨x, 1, none⟩ = some (.int .i64 (p : Int)) := HR.out.cell 1
  have c2 : W1.cell? ⟨x, 2, none⟩ = some (.slice a np cap) := HR.out.cell 2
  have HX : Hid (x < W1.heap.size) := HR.out.lt
  have HC2 : Hid (W1.cell? ⟨x, 2, none⟩ = some (.slice a np cap)) := c2
  go_upto_region 4 with (go_at_call 19; refine HC.out.mono ?_; rintro e W2 ⟨B, rfl, h1, h2, h3⟩; have HS := Lib.hid (PSt.new h1 h2 h3); clear h1 h2 h3)
  clear c0 c1 c2
  have HNP := HNP0
  clear HNP0
  generalize cfP w p P = C at HS HBU HNP
  go_wp2
  go_loopw [7] (fun vi wr => ∃ (i T : Nat) (L : List Ch), vi = .int .i64 i ∧ Hid (i ≤ gs.length ∧ T ≤ i ∧ L.length ≤ i ∧ PSt W1 B C T L wr)) (fun vi _ => gs.length - (intOf vi).toNat)
  case atStart => exact ⟨0, 0, [], rfl, Nat.zero_le _, Nat.le_refl _, Nat.le_refl _, HS.out⟩
  case round =>
    obtain ⟨i, T, L, rfl, HQ⟩ := hrel
    have i0 : (0 : Int) ≤ i := by omega
    by_cases hi : i < gs.length
    · have i1 : (i : Int) < gs.length := by omega
      have HI := Lib.hid hi
      obtain ⟨b, off, z, rfl, hzz, e0, z0, z1⟩ := HG.out.get (HF.out.trans HQ.out.2.2.2.fr0) hi
      have c2 : wr.cell? ⟨x, 2, none⟩ = some (.slice a np cap) := (HQ.out.2.2.2.cell HX.out 2).trans HC2.out
      obtain ⟨k, hk⟩ : ∃ k : Nat, z % (np : Int) = k := ⟨(z % (np : Int)).toNat, by have := Int.emod_nonneg z (show (np : Int) ≠ 0 by omega); omega⟩
      have lnn : ¬ np = 0 := by omega
      have htk : z.tmod (np : Int) = k := by rw [Int.tmod_eq_emod_of_nonneg z0]; exact hk
      have HKW : Hid ((IntKind.i64.wrap z).tmod (np : Int) = k) := by show _ = _; rw [IntWalk.i64_in z (by omega)]; exact htk
      have hk8 : k < C.np := by rw [HNP.out]; have := Int.emod_lt_of_pos z l0; omega
      have HCH := Lib.hid ((HQ.out.2.2.2.rest (Fr.drew (fun _ => False) wr)).charge i k false HQ.out.2.1 (by have := HN.out; have := HI.out; omega) hk8 (by have := HQ.out.2.2.1; have := HN.out; have := HI.out; omega))
      have HLL : Hid ((if nowL L i < C.pr then L ++ [⟨i, k, false⟩] else L).length ≤ i + 1) := by
        have := HQ.out.2.2.1
        show _ ≤ _
        split
        · rw [List.length_append]; simp; omega
        · omega
      generalize (if nowL L i < C.pr then L ++ [⟨i, k, false⟩] else L) = L' at HCH HLL
      generalize (if nowL L i < C.pr then (0 : Int) else 18) = zr at HCH
      have HKC : Hid (∀ W5, PSt W1 B C i L' W5 → W5.cell? ⟨b, off + i, none⟩ = some (.int .u8 z) ∧ W5.cell? ⟨x, 2, none⟩ = some (.slice a np cap)) := fun W5 h => ⟨by
        obtain ⟨b', off', z', e1, e2, e3, _, _⟩ := HG.out.get (HF.out.trans h.fr0) HI.out
        cases e1
        rw [hzz] at e2
        cases e2
        exact e3, (h.cell HX.out 2).trans HC2.out⟩
      have lne : ¬ (np : Int) = 0 := by omega
      have lne2 : ((np : Int) == 0) = false := by simpa using lne
      clear hi hzz hk8
      go_upto_region 7 with (fail)
      go_region_held3 (fun w' => w'.cell? ⟨b, off + i, none⟩ = some (.int .u8 z) ∧ w'.cell? ⟨x, 2, none⟩ = some (.slice a np cap))
        (first | (with_reducible exact HKC.out _ M2.out) | exact ⟨e0, c2⟩ | go_keep)
        (first | (go_at_call 28; rw [HKW.out]; refine HCH.out.mono ?_; rintro e W5 ⟨rfl, m2⟩; have M2 := Lib.hid m2; clear m2))
      go_wp2
      go_roundw
      case rel => exact ⟨i + 1, i, L', rfl, HI.out, by omega, HLL.out, M2.out⟩
      case measure =>
        have := HI.out
        show gs.length - (intOf (Value.int .i64 ((i : Int) + 1))).toNat < gs.length - (intOf (Value.int .i64 (i : Int))).toNat
        simp only [intOf]
        omega
    · have hlt : ¬ (i : Int) < gs.length := by omega
      have HS2 : Hid (LoI W1 B C gs.length L wr) := ⟨T, by have := HQ.out.1; have := HQ.out.2.1; omega, HQ.out.2.2.2⟩
      have HTI : Hid (gs.length ≤ 1099511627776) := by have := HN.out; show _ ≤ _; omega
      clear hi HQ HS HC
      obtain ⟨n, hgn⟩ : ∃ n, gs.length = n := ⟨_, rfl⟩
      rw [hgn] at HS2 HTI
      obtain ⟨cv, hcv⟩ : ∃ cv : Nat → Nat → Int, cv = fun a b => cmpV (C.bud a) (useL L C.win n a : Nat) (C.bud b) (useL L C.win n b : Nat) := ⟨_, rfl⟩
      have HCV : Hid (∀ a b, cv a b = -cv b a ∧ -1 ≤ cv a b ∧ cv a b ≤ 1) := fun a b => by subst hcv; exact ⟨cmpV_neg _ _ _ _, cmpV_bound _ _ _ _⟩
      have HTR : Hid (∀ a b d, cv a b ≤ 0 → cv b d ≤ 0 → cv a d ≤ 0) := fun a b d h1 h2 => by subst hcv; exact cmpV_trans (HBU.out a).1 (HBU.out b).1 (HBU.out d).1 h1 h2
      have HCO : Hid (∀ W a b, a < np → b < np → LoI W1 B C n L W → Calls Try.prog 31 #[.pointer (some ⟨B, 0, none⟩), .int .i64 (n : Int), .int .i64 (a : Int), .int .i64 (b : Int)] W fun e W' => e = .returned (.tuple #[.int .i64 (cv a b), .int .i64 0]) ∧ LoI W1 B C n L W') := fun W a b ha hb h => by
        subst hcv
        exact h.comp HBU.out HTI.out a b (by rw [HNP.out]; exact ha) (by rw [HNP.out]; exact hb)
      have HCE : Hid (∀ W, LoI W1 B C n L W → W.cell? ⟨x, 2, none⟩ = some (.slice a np cap)) := fun W h => (h.cell HX.out 2).trans HC2.out
      have HGN := Lib.hid hgn
      clear hcv hgn
      go_upto_region 9 with (fail)
      rw [HGN.out]
      go_wp2
      go_loopw [9] (fun vi wr => ∃ ia : Nat, vi = .int .i64 ia ∧ Hid (ia ≤ np ∧ LoI W1 B C n L wr)) (fun vi _ => np - (intOf vi).toNat)
      case atStart => exact ⟨0, rfl, Nat.zero_le _, HS2.out⟩
      case round =>
        obtain ⟨ia, rfl, HA⟩ := hrel
        have ia0 : (0 : Int) ≤ ia := by omega
        have c2 := HCE.out _ HA.out.2
        by_cases hia : ia < np
        · have ia1 : (ia : Int) < np := by omega
          have HIA := Lib.hid hia
          clear hia
          go_upto_region 12 with (fail)
          clear c2
          go_wp2
          go_loopw [10] (fun vi wr => ∃ ib : Nat, vi = .int .i64 ib ∧ Hid (ib ≤ np ∧ LoI W1 B C n L wr)) (fun vi _ => np - (intOf vi).toNat)
          case atStart => exact ⟨0, rfl, Nat.zero_le _, HA.out.2⟩
          case round =>
            obtain ⟨ib, rfl, HB⟩ := hrel
            have ib0 : (0 : Int) ≤ ib := by omega
            have c2 := HCE.out _ HB.out.2
            by_cases hib : ib < np
            · have ib1 : (ib : Int) < np := by omega
              have HIB := Lib.hid hib
              clear hib
              obtain ⟨v, hv⟩ : ∃ v, cv ia ib = v := ⟨_, rfl⟩
              have hv1 := HCV.out ia ib
              have hv2 : cv ib ia = -v := by have := (HCV.out ib ia).1; rw [hv] at this; exact this
              have HD1 := Lib.hid (HCO.out _ ia ib HIA.out HIB.out HB.out.2)
              have HD2 := Lib.hid (fun W h => HCO.out W ib ia HIB.out HIA.out h)
              rw [hv] at HD1 hv1
              rw [hv2] at HD2
              obtain ⟨hvl, va, vb⟩ := hv1
              clear hvl
              have HVV := Lib.hid hv
              have HV0 : Hid (ia = ib → v = 0) := fun e => by subst e; have := (HCV.out ia ia).1; rw [hv] at this; omega
              clear hv hv2
              have hne : (v != v) = false := by simp
              have n1 := HD1
              clear HD1
              have HAB : ((ia : Int) == ib) = false ∨ ((ia : Int) == ib) = true ∧ (v != 0) = false := by
                by_cases e : ia = ib
                · exact .inr ⟨beq_iff_eq.2 (by omega), by rw [HV0.out e]; rfl⟩
                · exact .inl (beq_eq_false_iff_ne.2 (by omega))
              rcases HAB with hab | ⟨hab, hab2⟩
              all_goals
                go_upto_region 19 with (first
                  | (go_at_call 31; refine n1.out.mono ?_; clear n1; rintro e W3 ⟨rfl, h3⟩; have H3 := Lib.hid h3; clear h3)
                  | (go_at_call 31; refine (HD2.out _ H3.out).mono ?_; rintro e W4 ⟨rfl, h4⟩; have H4 := Lib.hid h4; clear h4))
                clear c2 HD2 H3 hab
                try clear hab2
                go_wp2
                go_loopw [15] (fun vi wr => ∃ id : Nat, vi = .int .i64 id ∧ Hid (id ≤ np ∧ LoI W1 B C n L wr)) (fun vi _ => np - (intOf vi).toNat)
                case atStart => exact ⟨0, rfl, Nat.zero_le _, H4.out⟩
                case round =>
                  obtain ⟨id, rfl, HD⟩ := hrel
                  have id0 : (0 : Int) ≤ id := by omega
                  have c2 := HCE.out _ HD.out.2
                  by_cases hid : id < np
                  · have id1 : (id : Int) < np := by omega
                    have HID := Lib.hid hid
                    clear hid
                    obtain ⟨z, hz⟩ : ∃ z, cv ib id = z := ⟨_, rfl⟩
                    obtain ⟨y, hy⟩ : ∃ y, cv ia id = y := ⟨_, rfl⟩
                    have HE1 := Lib.hid (HCO.out _ ib id HIB.out HID.out HD.out.2)
                    have HE2 := Lib.hid (fun W h => HCO.out W ia id HIA.out HID.out h)
                    rw [hz] at HE1
                    rw [hy] at HE2
                    have HTT : Hid (v ≤ 0 → z ≤ 0 → y ≤ 0) := by have := HTR.out ia ib id; rw [HVV.out, hz, hy] at this; exact this
                    clear hz hy
                    have n2 := HE1
                    clear HE1
                    have hcase : ¬ v ≤ 0 ∨ (v ≤ 0 ∧ ¬ z ≤ 0) ∨ (v ≤ 0 ∧ z ≤ 0 ∧ y ≤ 0) := by have := HTT.out; omega
                    rcases hcase with k1 | ⟨k1, k2⟩ | ⟨k1, k2, k3⟩
                    all_goals
                      go_wp2_with (first
                        | (go_at_call 31; refine n2.out.mono ?_; clear n2; rintro e W5 ⟨rfl, h5⟩; have H5 := Lib.hid h5; clear h5)
                        | (go_at_call 31; refine (HE2.out _ H5.out).mono ?_; rintro e W6 ⟨rfl, h6⟩; have H6 := Lib.hid h6; clear h6))
                      go_roundw
                      case rel => exact ⟨id + 1, rfl, HID.out, H6.out⟩
                      case measure =>
                        have := HID.out
                        show np - (intOf (Value.int .i64 ((id : Int) + 1))).toNat < np - (intOf (Value.int .i64 (id : Int))).toNat
                        simp only [intOf]
                        omega
                  · have hlt3 : ¬ (id : Int) < np := by omega
                    clear hid
                    go_wp2
                    go_roundw
                    case rel => exact ⟨ib + 1, rfl, HIB.out, HD.out.2⟩
                    case measure =>
                      have := HIB.out
                      show np - (intOf (Value.int .i64 ((ib : Int) + 1))).toNat < np - (intOf (Value.int .i64 (ib : Int))).toNat
                      simp only [intOf]
                      omega
            · have hlt2 : ¬ (ib : Int) < np := by omega
              clear hib
              go_wp2
              go_roundw
              case rel => exact ⟨ia + 1, rfl, HIA.out, HB.out.2⟩
              case measure =>
                have := HIA.out
                show np - (intOf (Value.int .i64 ((ia : Int) + 1))).toNat < np - (intOf (Value.int .i64 (ia : Int))).toNat
                simp only [intOf]
                omega
        · have hlt1 : ¬ (ia : Int) < np := by omega
          clear hia
          go_wp2_with (go_at_call 18; refine (awake_any _).mono ?_; rintro e W3 ⟨rfl, f3⟩; have F3 := Lib.hid f3; clear f3)
          go_ret
          exact ⟨rfl, HF.out.trans (HA.out.2.fr0.trans F3.out)⟩
end Go.Proofs.Ytbjpaemldnoinaa
