/- ReadyRotates: the walk. -/
import Derived.Test.YtibmmonboeifhaaZc
namespace Go.Proofs.Ytibmmonboeifhaa
open Go.RowKit Go.Shelf
set_option linter.unusedVariables false

set_option maxRecDepth 100000 in
set_option maxHeartbeats 4000000 in
theorem rot_walk (a : Option Addr) (cap : Nat) (A : List ActR) (hn : A.length ≤ 60) (c : Nat) (hc : c < 256) (w : World) (hA : ActsIn w a A) : Calls Try.prog 5 #[.slice a A.length cap, .int .u8 c] w fun e w' => e = .returned (.bool true) ∧ w.grownBy w' none := by
  have h60 : ¬ (60 : Int) < A.length := by omega
  have c0 : (0 : Int) ≤ c := by omega
  have c255 : (c : Int) < 256 := by omega
  have HL := Lib.hid hn
  have HC := Lib.hid hc
  have HA := Lib.hid hA
  have HN : Hid (Calls Try.prog 10 #[] w fun e W' => e = .returned (.pointer (some ⟨w.heap.size, 0, none⟩)) ∧ AW noL (fun _ => 0) w W') := (new_any w).mono fun e W' ⟨he, hg, hq⟩ => ⟨he, hq, below_grown hg⟩
  have HS : Hid ((Try.prog.info? 32).map (·.size) = some 6) := by show _ = _; kernel_rfl
  clear hn hA hc
  go_enter Try.func5, Try.ntmps5
  go_wp2_with (go_at_call 10; refine HN.out.mono ?_; rintro e W1 ⟨rfl, a1⟩)
  have HF : Hid (RotI w c 0 W1) := ⟨_, _, a1, fun t => .inl rfl, rfl⟩
  clear a1
  go_loopw [6, 7, 8] (fun vn vi vx wr => ∃ i n : Nat, vi = .int .i64 i ∧ vn = .int .i64 n ∧ Hid (i ≤ A.length ∧ n ≤ i ∧ RotI w c n wr)) (fun vn vi vx _ => A.length - (intOf vi).toNat)
  case atStart => exact ⟨0, 0, rfl, rfl, Nat.zero_le _, Nat.le_refl _, HF.out⟩
  case round =>
    obtain ⟨i, n, rfl, rfl, HR⟩ := hrel
    by_cases hi : i < A.length
    · have HI := Lib.hid hi
      obtain ⟨b, off, x, rfl, hx, hr, d0, d1⟩ := HA.out.get HR.out.2.2.choose_spec.choose_spec.1.2 hi
      have HRR := Lib.hid hr
      have i1 : (0 : Int) ≤ i := by omega
      have i2 : (i : Int) < A.length := by omega
      have n1 : (0 : Int) ≤ n := by omega
      have n2 : (n : Int) ≤ 60 := by have := HR.out.2.1; have := HL.out; omega
      clear hi hx hr
      go_upto_region 9 with (first
        | (refine wpList_load_mid rfl 32 _ rfl b (off + i * 6) rfl (actC x) _ HRR.out Try.underlying32 rfl HS.out ?_)
        | (refine wpList_store_row rfl 32 (Operand.tmp 8) (Operand.tmp 29) rfl wr.heap.size (actC x).toArray rfl rfl 32 _ (World.alloc_heap_new _ _) HS.out rfl (actC_one x) ?_; rw [World.setRow_alloc_new]))
      have HRW := Lib.hid (RowAt.new wr 32 (actC x).toArray)
      have HF2 := Lib.hid (HR.out.2.2.keep (grown_alloc wr (.cells (actC x).toArray 32) none))
      have HNE : Hid (wr.heap.size ≠ w.heap.size) := by
        obtain ⟨ls, mk, h1, _⟩ := HR.out.2.2
        have := h1.1.lt
        show _ ≠ _
        omega
      clear HRR
      generalize World.alloc wr _ = W2 at HRW HF2 ⊢
      generalize wr.heap.size = bx at HRW HNE ⊢
      have e1 : W2.cell? ⟨bx, 1, none⟩ = some (.int .i64 x.t) := HRW.out.cell 1
      have e2 : W2.cell? ⟨bx, 2, none⟩ = some (.int .i64 x.p) := HRW.out.cell 2
      have e5 : W2.cell? ⟨bx, 5, none⟩ = some (.bool x.f) := HRW.out.cell 5
      have HE2 : Hid (∀ W3 : World, W2.grownBy W3 (some w.heap.size) → W3.cell? ⟨bx, 2, none⟩ = some (.int .i64 x.p)) := fun W3 hg => (HRW.out.kept hg (by simpa using HNE.out)).cell 2
      clear HRW d0 d1
      generalize x.t = xt at e1
      generalize x.p = xp at e2 HE2
      generalize x.f = xf at e5
      obtain ⟨z, ⟨hz, hp, HA1⟩ | ⟨hz, hp, HA1⟩ | ⟨hz, HA1⟩⟩ := rot_add HF2.out xt xp xf
      · have hp' : (xp == (c : Int)) = true := by simpa using hp
        have HA2 := Lib.hid HA1
        clear hp HA1
        go_wp2_with (go_at_call 18; refine HA2.out.mono ?_; rintro e W3 ⟨rfl, h1, hg⟩; have e2' := HE2.out W3 hg; have HF4 := Lib.hid h1; clear h1 hg)
        go_roundw
        case rel => exact ⟨i + 1, n + 1, rfl, rfl, HI.out, by have := HR.out.2.1; omega, HF4.out⟩
        case measure =>
          have := HI.out
          show A.length - (intOf (Value.int .i64 ((i : Int) + 1))).toNat < A.length - (intOf (Value.int .i64 (i : Int))).toNat
          simp only [intOf]
          omega
      · have hp' : (xp == (c : Int)) = false := by simpa using hp
        have HA2 := Lib.hid HA1
        clear hp HA1
        go_wp2_with (go_at_call 18; refine HA2.out.mono ?_; rintro e W3 ⟨rfl, h1, hg⟩; have e2' := HE2.out W3 hg; have HF4 := Lib.hid h1; clear h1 hg)
        go_roundw
        case rel => exact ⟨i + 1, n, rfl, rfl, HI.out, by have := HR.out.2.1; omega, HF4.out⟩
        case measure =>
          have := HI.out
          show A.length - (intOf (Value.int .i64 ((i : Int) + 1))).toNat < A.length - (intOf (Value.int .i64 (i : Int))).toNat
          simp only [intOf]
          omega
      · have HA2 := Lib.hid HA1
        clear HA1
        go_wp2_with (go_at_call 18; refine HA2.out.mono ?_; rintro e W3 ⟨rfl, h1, hg⟩; have HF4 := Lib.hid h1; clear h1 hg)
        go_roundw
        case rel => exact ⟨i + 1, n, rfl, rfl, HI.out, by have := HR.out.2.1; omega, HF4.out⟩
        case measure =>
          have := HI.out
          show A.length - (intOf (Value.int .i64 ((i : Int) + 1))).toNat < A.length - (intOf (Value.int .i64 (i : Int))).toNat
          simp only [intOf]
          omega
    · obtain rfl : i = A.length := by have := HR.out.1; omega
      have hlt : ¬ (A.length : Int) < A.length := by omega
      obtain ⟨ls, mk, h1, h2, h3⟩ := HR.out.2.2
      have n1 : (0 : Int) ≤ n := by omega
      have n2 : (n : Int) ≤ 60 := by have := HR.out.2.1; have := HL.out; omega
      have HORD := Lib.hid (order_row h1)
      have HM := Lib.hid h2
      have H3 := Lib.hid h3
      have HLL := Lib.hid h1.few
      clear hi h1 h2 h3 HA HF HR
      go_wp2_with (go_at_call 13; refine HORD.out.mono ?_; rintro e W2 ⟨g, rfl, r2⟩; have R2 := Lib.hid r2; clear r2)
      generalize hll : order ls = l at R2 HLL ⊢
      have HOL := Lib.hid hll
      clear hll HORD
      go_loopw [10] (fun vk wr => ∃ k : Nat, vk = .int .i64 k ∧ Hid (k ≤ n ∧ RS w g l (rotK ls c k) mk wr)) (fun vk _ => n - (intOf vk).toNat)
      case atStart => exact ⟨0, rfl, Nat.zero_le _, by rw [rotK_zero]; exact R2.out⟩
      case round =>
        obtain ⟨k, rfl, HR⟩ := hrel
        by_cases hk : k < n
        · have k1 : (0 : Int) ≤ k := by omega
          have k2 : (k : Int) < n := by omega
          have HROT : Hid (Calls Try.prog 22 #[.pointer (some ⟨w.heap.size, 0, none⟩), .int .i64 c] wr fun e W' => e = .returned (.int .i64 0) ∧ RS w g l (rotK ls c (k + 1)) mk W') := by
            obtain ⟨e1, e2⟩ := rotK_succ ls c k (by rw [H3.out]; exact hk)
            refine (rotate_ok HR.out.2.aw.1 c HC.out e2).mono fun e w' ⟨he, hg, hq⟩ => ⟨he, ?_⟩
            rw [e1] at hq
            exact HR.out.2.own (HR.out.2.aw.own hg hq) hg
          have HK := Lib.hid hk
          clear hk
          go_wp2_with (go_at_call 22; refine HROT.out.mono ?_; rintro e W3 ⟨rfl, r3⟩; have R3 := Lib.hid r3; clear r3)
          go_roundw
          case rel => exact ⟨k + 1, rfl, HK.out, R3.out⟩
          case measure =>
            have := HK.out
            show n - (intOf (Value.int .i64 ((k : Int) + 1))).toNat < n - (intOf (Value.int .i64 (k : Int))).toNat
            simp only [intOf]
            omega
        · obtain rfl : k = n := by have := HR.out.1; omega
          have hlt : ¬ (k : Int) < k := by omega
          have HR2 : Hid (RS w g l ls mk wr) := by have h := HR.out.2; rw [← H3.out, rotK_all] at h; exact h
          have HOR : Hid (∀ W, RS w g l ls mk W → Calls Try.prog 13 #[.pointer (some ⟨w.heap.size, 0, none⟩)] W fun e W' => ∃ v, e = .returned v ∧ SlN W' v l ∧ RS w g l ls mk W') := fun W h => by
            have := h.order; rw [HOL.out] at this; exact this
          have HEQ : Hid (∀ W v, SlN W v l → RS w g l ls mk W → Calls Try.prog 12 #[v, .slice (some ⟨g, 0, none⟩) l.length l.length] W fun e W' => e = .returned (.bool true) ∧ RS w g l ls mk W') := fun W v hs h => h.equal v hs HLL.out
          have HR0 : k = 0 → Hid (∀ W, RS w g l ls mk W → Calls Try.prog 22 #[.pointer (some ⟨w.heap.size, 0, none⟩), .int .i64 c] W fun e W' => e = .returned (.int .i64 22) ∧ W = W') := fun e W h =>
            rotate_none h.aw.1 c HC.out (List.length_eq_zero_iff.1 (by rw [H3.out, e]))
          clear hk HR R2
          have HEND : Hid (∀ W, RS w g l ls mk W → w.grownBy W none) := fun W h => grown_below h.aw.2
          by_cases h0 : k = 0
          all_goals
            first
              | (have HR1 := HR0 h0; have h0' : ((k : Int) == 0) = true := by simpa using h0)
              | (have HR1 : Hid True := trivial; have h0' : ((k : Int) == 0) = false := by simpa using h0)
            clear HR0 h0
            go_upto_region 19 with (first
              | (go_at_call 13; refine (HOR.out _ HR2.out).mono ?_; rintro e W3 ⟨v, rfl, s3, r3⟩; have S3 := Lib.hid s3; have R3 := Lib.hid r3; clear s3 r3)
              | (go_at_call 12; refine (HEQ.out _ _ S3.out R3.out).mono ?_; rintro e W4 ⟨rfl, r4⟩; have R4 := Lib.hid r4; clear r4)
              | (go_at_call 22; refine (HR1.out _ R4.out).mono ?_; rintro e w' ⟨rfl, rfl⟩))
            by_cases hl : l = []
            · have hl' : ¬ (0 : Int) < l.length := by rw [hl]; simp
              clear hl
              go_wp2_with (go_at_call 9; refine (awake_any _).mono ?_; rintro e W5 ⟨rfl, g5⟩)
              go_ret
              exact ⟨rfl, grown_trans (HEND.out _ R4.out) g5⟩
            · have hl' : (0 : Int) < l.length := by have := List.length_pos_iff.2 hl; omega
              obtain ⟨x, y, px, py, bx, bY, hpx, hpy, cx, cy⟩ := rot_two R4.out HOL.out hl
              obtain ⟨ls1, mk1, HP1, HRM1, HAD1⟩ := rot_ends R4.out.aw HM.out x px true bx hpx
              obtain ⟨ls2, mk2, HP2, HRM2, HAD2⟩ := rot_ends R4.out.aw HM.out y py false bY hpy
              have L1 : (l.length : Int) ≤ 65536 := by have := HLL.out; omega
              have L2 : IntKind.i64.wrap ((l.length : Int) - 1) = (l.length : Int) - 1 := IntWalk.i64_in _ (by omega)
              have L3 : 0 ≤ (l.length : Int) - 1 := by omega
              have L4 : ((l.length : Int) - 1).toNat = l.length - 1 := by omega
              clear hl hpx hpy
              go_upto_region 20 with (fail)
              go_quiet (fail)
              have R5 := Lib.hid (R4.out.keep (grown_drewN W4 nq none))
              clear cx cy L1 L2 L3 L4
              generalize World.drewN W4 nq = W5 at R5 ⊢
              go_wp2_with (first
                | (go_at_call 20; refine (HP1.out _ R5.out.aw).mono ?_; rintro e w' ⟨rfl, rfl⟩)
                | (go_at_call 23; refine (HRM1.out _ R5.out.aw).mono ?_; rintro e W6 ⟨rfl, a6, g6⟩; have R6 := Lib.hid (R5.out.own a6 g6); clear a6 g6 R5)
                | (go_at_call 18; refine (HAD1.out _ R6.out.aw).mono ?_; rintro e W7 ⟨rfl, a7, g7⟩; have R7 := Lib.hid (R6.out.own a7 g7); clear a7 g7 R6)
                | (go_at_call 13; refine (HOR.out _ R7.out).mono ?_; rintro e W8 ⟨v8, rfl, s8, r8⟩; have S8 := Lib.hid s8; have R8 := Lib.hid r8; clear s8 r8 R7)
                | (go_at_call 12; refine (HEQ.out _ _ S8.out R8.out).mono ?_; rintro e W9 ⟨rfl, r9⟩; have R9 := Lib.hid r9; clear r9 R8)
                | (go_at_call 20; refine (HP2.out _ R9.out.aw).mono ?_; rintro e w' ⟨rfl, rfl⟩)
                | (go_at_call 23; refine (HRM2.out _ R9.out.aw).mono ?_; rintro e Wa ⟨rfl, aa, ga⟩; have RA := Lib.hid (R9.out.own aa ga); clear aa ga R9)
                | (go_at_call 18; refine (HAD2.out _ RA.out.aw).mono ?_; rintro e Wb ⟨rfl, ab, gb⟩; have RB := Lib.hid (RA.out.own ab gb); clear ab gb RA)
                | (go_at_call 13; refine (HOR.out _ RB.out).mono ?_; rintro e Wc ⟨vc, rfl, sc, rc⟩; have SC := Lib.hid sc; have RC := Lib.hid rc; clear sc rc RB)
                | (go_at_call 12; refine (HEQ.out _ _ SC.out RC.out).mono ?_; rintro e Wd ⟨rfl, rd⟩; have RD := Lib.hid rd; clear rd RC)
                | (go_at_call 9; refine (awake_any _).mono ?_; rintro e We ⟨rfl, ge⟩))
              go_ret
              exact ⟨rfl, grown_trans (HEND.out _ RD.out) ge⟩
end Go.Proofs.Ytibmmonboeifhaa
