/- SporadicSums: the walk. -/
import Derived.Test.YtibmmonboeifhaaUo
namespace Go.Proofs.Ytibmmonboeifhaa
open Go.RowKit
set_option linter.unusedVariables false

theorem new_bad_ls (b p n l : Int) (h : okP b p n l ≠ true) (w : World) : Calls Try.prog 24 #[.agg (parA b p n l)] w fun e w' => e = .returned (.tuple #[.pointer none, .int .i64 34]) ∧ Below w.heap.size w w' := new_bad b p n l h w

set_option maxRecDepth 100000 in
set_option maxHeartbeats 1000000 in
theorem sums_bad (a : Option Addr) (len cap : Nat) (b p n l : Int) (h : okP b p n l ≠ true) (w : World) : Calls Try.prog 8 #[.agg (parA b p n l), .slice a len cap] w fun e w' => e = .returned (.bool true) ∧ Below w.heap.size w w' := by
  have HP := Lib.hid (PX.new w b p n l)
  have HS : Hid ((Try.prog.info? 45).map (·.size) = some (parA b p n l).size) := by show _ = _; unfold parA; kernel_rfl
  have HN := Lib.hid (fun W => new_bad b p n l h W)
  clear h
  go_enter Try.func8, Try.ntmps8
  go_upto_region 1 with (fail)
  generalize World.alloc w _ = W0 at HP ⊢
  generalize w.heap.size = x at HP ⊢
  go_wp2_with (first
    | (refine wpList_load_row rfl 45 _ rfl x rfl 45 (parA b p n l) (0, 0) _ HP.out.row Try.underlying45 rfl HS.out ?_)
    | (go_at_call 24; refine (HN.out _).mono ?_; rintro e W1 ⟨rfl, g1⟩; have G1 := Lib.hid g1; clear g1)
    | (go_at_call 27; refine (awake_any _).mono ?_; rintro e W2 ⟨rfl, g2⟩; have G2 := Lib.hid g2; clear g2))
  go_ret
  exact ⟨rfl, HP.out.all (G1.out.trans (G2.out.mono G1.out.size))⟩
set_option maxRecDepth 100000 in
set_option maxHeartbeats 1000000 in
theorem sums_long (a : Option Addr) (len cap : Nat) (hlen : 200 < len) (b p : Int) (n : Nat) (l : Int) (h : okP b p n l = true) (w : World) : Calls Try.prog 8 #[.agg (parA b p n l), .slice a len cap] w fun e w' => e = .returned (.bool true) ∧ Below w.heap.size w w' := by
  have HP := Lib.hid (PX.new w b p n l)
  have HS : Hid ((Try.prog.info? 45).map (·.size) = some (parA b p n l).size) := by show _ = _; unfold parA; kernel_rfl
  have HN := Lib.hid (fun W => new_ok b p n l h W)
  have h200 : (200 : Int) < len := by omega
  clear h hlen
  go_enter Try.func8, Try.ntmps8
  go_upto_region 1 with (fail)
  generalize World.alloc w _ = W0 at HP ⊢
  generalize w.heap.size = x at HP ⊢
  go_wp2_with (first
    | (refine wpList_load_row rfl 45 _ rfl x rfl 45 (parA b p n l) (0, 0) _ HP.out.row Try.underlying45 rfl HS.out ?_)
    | (go_at_call 24; refine (HN.out _).mono ?_; rintro e W1 ⟨B, G, rfl, k1, k2, k3, g1⟩; have G1 := Lib.hid g1; clear g1 k1 k2 k3)
    | (go_at_call 27; refine (awake_any _).mono ?_; rintro e W2 ⟨rfl, g2⟩; have G2 := Lib.hid g2; clear g2))
  go_ret
  exact ⟨rfl, HP.out.all (G1.out.trans (G2.out.mono G1.out.size))⟩

set_option maxRecDepth 100000 in
set_option maxHeartbeats 4000000 in
theorem sums_walk (a : Option Addr) (cap : Nat) (gs : List Int) (hlen : gs.length ≤ 200) (b p : Int) (n : Nat) (l : Int) (h : okP b p n l = true) (w : World) (hg : BytesIn w a gs) : Calls Try.prog 8 #[.agg (parA b p n l), .slice a gs.length cap] w fun e w' => e = .returned (.bool true) ∧ Below w.heap.size w w' := by
  have HP := Lib.hid (PX.new w b p n l)
  have HS : Hid ((Try.prog.info? 45).map (·.size) = some (parA b p n l).size) := by show _ = _; unfold parA; kernel_rfl
  have HN := Lib.hid (fun W => new_ls b p n l h (w := W) (Below.refl _ W))
  have h200 : ¬ (200 : Int) < gs.length := by omega
  obtain ⟨k1, k2, k3, k4, k5, k6⟩ := (okP_iff _ _ _ _).1 h
  have HLEN : Hid (gs.length ≤ 200) := hlen
  have HGI := Lib.hid (new_gi b p n l h)
  have HGS := Lib.hid hg
  clear h hlen k6 hg
  go_enter Try.func8, Try.ntmps8
  go_upto_region 1 with (fail)
  generalize World.alloc w _ = W0 at HP ⊢
  generalize hgg : w.heap.size = x at HP ⊢
  have HGG := Lib.hid hgg
  clear hgg
  go_wp2_with (first
    | (refine wpList_load_row rfl 45 _ rfl x rfl 45 (parA b p n l) (0, 0) _ HP.out.row Try.underlying45 rfl HS.out ?_)
    | (go_at_call 24; refine (HN.out _).mono ?_; rintro e W1 ⟨B, G, rfl, s1⟩; have S1 : Hid (SumI W0 B G b p n 0 (newA b p n l) 0 W1) := ⟨s1, HGI.out, Int.le_refl _, rfl, rfl⟩; clear s1))
  go_loopw [7, 8, 9, 10, 11, 12, 13, 14, 15] (fun v7 v8 v9 v10 v11 v12 v13 v14 v15 wr => ∃ (i : Nat) (s : AQ) (now : Int), v10 = .int .i64 i ∧ v7 = .int .i64 now ∧ v8 = .int .i64 s.ran ∧ v9 = .int .i64 s.chk ∧ Hid (i ≤ gs.length ∧ SumI W0 B G b p n i s now wr)) (fun v7 v8 v9 v10 v11 v12 v13 v14 v15 _ => gs.length - (intOf v10).toNat)
  case atStart => exact ⟨0, newA b p n l, 0, rfl, rfl, rfl, rfl, Nat.zero_le _, S1.out⟩
  case round =>
    obtain ⟨i, s, now, rfl, rfl, rfl, rfl, HR⟩ := hrel
    by_cases hi : i < gs.length
    · have i1 : (0 : Int) ≤ i := by omega
      have i2 : (i : Int) < gs.length := by omega
      have hi200 : i ≤ 200 := by have := HLEN.out; omega
      have HII := Lib.hid hi
      obtain ⟨bb, off, z, rfl, zcl, z0, z1⟩ := HGS.out.all hi
      have HZC : Hid (∀ W, Below W0.heap.size W0 W → W.cell? ⟨bb, off + i, none⟩ = some (.int .u8 z)) := fun W hb => zcl W (HP.out.all hb)
      clear zcl
      have HB := Lib.hid (HR.out.2.budget hi200)
      obtain ⟨q1, q2, q3, q4, q5⟩ := HR.out.2
      have n0 : 0 ≤ now := q2.n0
      have n1 : now ≤ 51200 := by omega
      have r0 : -1 ≤ s.ran := q2.ai.ran0
      have r1 : s.ran ≤ 51200 := by have := q2.ran; omega
      have HT : Hid (tellA now (tellA now s) = tellA now s) := tell_tell (Int.le_refl _) s
      have HC : Hid ((tellA now s).chk = if s.ran + 1 < now ∨ (tellA now s).bud = 0 then 0 else s.chk) := q2.chk_tell
      have HRN : Hid ((tellA now s).ran = s.ran) := tellA_ran now s
      have hb0 : 0 ≤ (tellA now s).bud := q2.tell.ai.bud0
      have hb1 : (tellA now s).bud ≤ 1000000 := by have := q2.tell.ai.sum; have := sumL_nonneg q2.tell.ai.amt; have := q2.tell.ai.chk0; have := q2.tell.ai.tot; omega
      have hc0 : 0 ≤ s.chk := q2.ai.chk0
      have hc1 : s.chk ≤ 1000000 := by have := q2.ai.sum; have := sumL_nonneg q2.ai.amt; have := q2.ai.bud0; have := q2.ai.tot; omega
      clear q1 q2 q3 q4 q5 hi
      generalize tellA now s = s1 at HB HT HC HRN hb0 hb1
      have HR9 : Hid (now ≤ 256 * i) := HR.out.2.2.2.1
      by_cases hA : s.ran + 1 < now
      · have HC0 : Hid (s1.chk = 0) := by show _ = _; rw [HC.out, if_pos (.inl hA)]
        by_cases hz : s1.bud = 0
        · have HZ := Lib.hid hz
          have hz' : (s1.bud == 0) = true := by simpa using hz
          clear hz HC
          go_upto_region 20 with (first
            | (go_at_call 37; refine HB.out.mono ?_; rintro e W2 ⟨rfl, s2⟩; have S2 := Lib.hid s2; clear s2)
            | (go_at_call 36; refine (S2.out.run0 hi200 HT.out HZ.out).mono ?_; rintro e W3 ⟨rfl, s3⟩; have SF : Hid (LS W0 B G b s1 W3 ∧ s1.per = p ∧ s1.cap = n ∧ GI b s1 (now + 1)) := ⟨s3, S2.out.2.2.2.1, S2.out.2.2.2.2, S2.out.2.1.later (by omega)⟩; clear s3))
          have HE : Hid (s1.bud = s1.bud ∧ s1.chk = 0 ∧ s1.ran = s.ran) := ⟨rfl, HC0.out, HRN.out⟩
          clear HB HR HT HC0 HRN S2 HZ
          have HRP := Lib.hid (repl_any SF.out.1.ss)
          go_upto_region 22 with (go_at_call 32; refine HRP.out.mono ?_; rintro e W4 ⟨g, rfl, hg, hl, hs, hb⟩; have L4 := Lib.hid (SF.out.1.more hb); have HLI := Lib.hid hl; clear hg hl hs hb HRP)
          have q0 := SF.out.2.2.2.ai.bud0
          have q1 := SF.out.2.2.2.ai.chk0
          have q2 := SF.out.2.2.2.ai.sum
          have q3 := SF.out.2.2.2.ai.tot
          have HQ : Hid (∀ k, 0 ≤ sumL (s1.l.take k) ∧ sumL (s1.l.take k) ≤ sumL s1.l) := fun k => sumL_take_le SF.out.2.2.2.ai.amt k
          have HLN : Hid (s1.l.length ≤ n) := by have := SF.out.2.2.2.ai.len; rw [SF.out.2.2.1] at this; exact this
          go_loop [13, 15] (fun v13 v15 => ∃ k : Nat, v15 = .int .i64 k ∧ v13 = .int .i64 (s1.bud + s1.chk + sumL (s1.l.take k)) ∧ Hid (k ≤ s1.l.length)) (fun _ v15 => s1.l.length - (intOf v15).toNat)
          case atStart => exact ⟨0, rfl, congrArg (Value.int .i64) (by have := HE.out; rw [List.take_zero, sumL_nil]; omega), Nat.zero_le _⟩
          case round =>
            obtain ⟨k, rfl, rfl, HKL⟩ := hrel
            by_cases hk : k < s1.l.length
            · obtain ⟨y, hy⟩ : ∃ y, s1.l[k]? = some y := ⟨_, List.getElem?_eq_getElem hk⟩
              have cy := (HLI.out k y hy).2
              have HS1 := Lib.hid (sumL_take_succ hy)
              have y0 := SF.out.2.2.2.ai.amt y (List.mem_of_getElem? hy)
              have y1 := (HQ.out k).1
              have y2 := (HQ.out (k + 1)).2
              rw [HS1.out] at y2
              have kk0 : (0 : Int) ≤ k := by omega
              have kk1 : (k : Int) < s1.l.length := by omega
              have kk2 : (k : Int) < 32 := by have := HLN.out; omega
              have HKK := Lib.hid hk
              clear hk hy
              go_wp2
              go_round
              case rel => exact ⟨k + 1, rfl, congrArg (Value.int .i64) (by rw [HS1.out]; omega), HKK.out⟩
              case measure =>
                have := HKK.out
                show s1.l.length - (intOf (Value.int .i64 ((k : Int) + 1))).toNat < s1.l.length - (intOf (Value.int .i64 (k : Int))).toNat
                simp only [intOf]
                omega
            · have hkk : k = s1.l.length := by have := HKL.out; omega
              subst hkk
              have hlt : ¬ (s1.l.length : Int) < s1.l.length := by omega
              have hsum : s1.bud + s1.chk + sumL (s1.l.take s1.l.length) = b := by rw [List.take_length]; omega
              rw [hsum]
              clear hsum
              have hln : ¬ (n : Int) < s1.l.length := by have := HLN.out; omega
              obtain ⟨p0, p1, p2⟩ := HP.out.cells L4.out.bel
              have zc := HZC.out _ L4.out.bel
              clear hk q0 q1 q2 q3
              go_wp2
              go_roundw
              case rel =>
                refine ⟨i + 1, s1, now + (1 + z), rfl, rfl, congrArg (Value.int .i64) (by have := HE.out; omega), congrArg (Value.int .i64) (by have := HE.out; omega), HII.out, L4.out, SF.out.2.2.2.later (by omega), by have := HR9.out; omega, SF.out.2.1, SF.out.2.2.1⟩
              case measure =>
                have := HII.out
                show gs.length - (intOf (Value.int .i64 ((i : Int) + 1))).toNat < gs.length - (intOf (Value.int .i64 (i : Int))).toNat
                simp only [intOf]
                omega
        · have HZ := Lib.hid hz
          have hz' : (s1.bud == 0) = false := by simpa using hz
          have hb2 : 1 ≤ s1.bud := by omega
          by_cases ho : s1.bud = 1
          · have HO := Lib.hid ho
            have ho' : (s1.bud - 1 == 0) = true := by rw [ho]; rfl
            clear hz ho HC
            go_upto_region 20 with (first
              | (go_at_call 37; refine HB.out.mono ?_; rintro e W2 ⟨rfl, s2⟩; have S2 := Lib.hid s2; clear s2)
              | (go_at_call 36; obtain ⟨sF, ⟨hf1, hf2, hf3, hf4, hf5, hf6⟩, hr⟩ := S2.out.run1 hi200 HT.out HZ.out; have HF1 := Lib.hid hf1; have HF2 := Lib.hid hf2; have HF3 := Lib.hid hf3; refine hr.mono ?_; rintro e W3 ⟨rfl, l3⟩; have SF := Lib.hid (And.intro l3 (And.intro hf4 (And.intro hf5 hf6))); clear l3 hr hf1 hf2 hf3 hf4 hf5 hf6))
            have HE : Hid (sF.bud = s1.bud - 1 ∧ sF.chk = 0 ∧ sF.ran = now) := ⟨HF1.out, by rw [HF2.out, if_pos HO.out], HF3.out⟩
            clear HB HR HT HC0 HRN S2 HF1 HF2 HF3 HO HZ
            have HRP := Lib.hid (repl_any SF.out.1.ss)
            go_upto_region 22 with (go_at_call 32; refine HRP.out.mono ?_; rintro e W4 ⟨g, rfl, hg, hl, hs, hb⟩; have L4 := Lib.hid (SF.out.1.more hb); have HLI := Lib.hid hl; clear hg hl hs hb HRP)
            have q0 := SF.out.2.2.2.ai.bud0
            have q1 := SF.out.2.2.2.ai.chk0
            have q2 := SF.out.2.2.2.ai.sum
            have q3 := SF.out.2.2.2.ai.tot
            have HQ : Hid (∀ k, 0 ≤ sumL (sF.l.take k) ∧ sumL (sF.l.take k) ≤ sumL sF.l) := fun k => sumL_take_le SF.out.2.2.2.ai.amt k
            have HLN : Hid (sF.l.length ≤ n) := by have := SF.out.2.2.2.ai.len; rw [SF.out.2.2.1] at this; exact this
            go_loop [13, 15] (fun v13 v15 => ∃ k : Nat, v15 = .int .i64 k ∧ v13 = .int .i64 (sF.bud + sF.chk + sumL (sF.l.take k)) ∧ Hid (k ≤ sF.l.length)) (fun _ v15 => sF.l.length - (intOf v15).toNat)
            case atStart => exact ⟨0, rfl, congrArg (Value.int .i64) (by have := HE.out; rw [List.take_zero, sumL_nil]; omega), Nat.zero_le _⟩
            case round =>
              obtain ⟨k, rfl, rfl, HKL⟩ := hrel
              by_cases hk : k < sF.l.length
              · obtain ⟨y, hy⟩ : ∃ y, sF.l[k]? = some y := ⟨_, List.getElem?_eq_getElem hk⟩
                have cy := (HLI.out k y hy).2
                have HS1 := Lib.hid (sumL_take_succ hy)
                have y0 := SF.out.2.2.2.ai.amt y (List.mem_of_getElem? hy)
                have y1 := (HQ.out k).1
                have y2 := (HQ.out (k + 1)).2
                rw [HS1.out] at y2
                have kk0 : (0 : Int) ≤ k := by omega
                have kk1 : (k : Int) < sF.l.length := by omega
                have kk2 : (k : Int) < 32 := by have := HLN.out; omega
                have HKK := Lib.hid hk
                clear hk hy
                go_wp2
                go_round
                case rel => exact ⟨k + 1, rfl, congrArg (Value.int .i64) (by rw [HS1.out]; omega), HKK.out⟩
                case measure =>
                  have := HKK.out
                  show sF.l.length - (intOf (Value.int .i64 ((k : Int) + 1))).toNat < sF.l.length - (intOf (Value.int .i64 (k : Int))).toNat
                  simp only [intOf]
                  omega
              · have hkk : k = sF.l.length := by have := HKL.out; omega
                subst hkk
                have hlt : ¬ (sF.l.length : Int) < sF.l.length := by omega
                have hsum : sF.bud + sF.chk + sumL (sF.l.take sF.l.length) = b := by rw [List.take_length]; omega
                rw [hsum]
                clear hsum
                have hln : ¬ (n : Int) < sF.l.length := by have := HLN.out; omega
                obtain ⟨p0, p1, p2⟩ := HP.out.cells L4.out.bel
                have zc := HZC.out _ L4.out.bel
                clear hk q0 q1 q2 q3
                go_wp2
                go_roundw
                case rel =>
                  refine ⟨i + 1, sF, now + (1 + z), rfl, rfl, congrArg (Value.int .i64) (by have := HE.out; omega), congrArg (Value.int .i64) (by have := HE.out; omega), HII.out, L4.out, SF.out.2.2.2.later (by omega), by have := HR9.out; omega, SF.out.2.1, SF.out.2.2.1⟩
                case measure =>
                  have := HII.out
                  show gs.length - (intOf (Value.int .i64 ((i : Int) + 1))).toNat < gs.length - (intOf (Value.int .i64 (i : Int))).toNat
                  simp only [intOf]
                  omega
          · have HO := Lib.hid ho
            have ho' : (s1.bud - 1 == 0) = false := by simp; omega
            clear hz ho HC
            go_upto_region 20 with (first
              | (go_at_call 37; refine HB.out.mono ?_; rintro e W2 ⟨rfl, s2⟩; have S2 := Lib.hid s2; clear s2)
              | (go_at_call 36; obtain ⟨sF, ⟨hf1, hf2, hf3, hf4, hf5, hf6⟩, hr⟩ := S2.out.run1 hi200 HT.out HZ.out; have HF1 := Lib.hid hf1; have HF2 := Lib.hid hf2; have HF3 := Lib.hid hf3; refine hr.mono ?_; rintro e W3 ⟨rfl, l3⟩; have SF := Lib.hid (And.intro l3 (And.intro hf4 (And.intro hf5 hf6))); clear l3 hr hf1 hf2 hf3 hf4 hf5 hf6))
            have HE : Hid (sF.bud = s1.bud - 1 ∧ sF.chk = 1 ∧ sF.ran = now) := ⟨HF1.out, by rw [HF2.out, if_neg HO.out, HC0.out]; rfl, HF3.out⟩
            clear HB HR HT HC0 HRN S2 HF1 HF2 HF3 HO HZ
            have HRP := Lib.hid (repl_any SF.out.1.ss)
            go_upto_region 22 with (go_at_call 32; refine HRP.out.mono ?_; rintro e W4 ⟨g, rfl, hg, hl, hs, hb⟩; have L4 := Lib.hid (SF.out.1.more hb); have HLI := Lib.hid hl; clear hg hl hs hb HRP)
            have q0 := SF.out.2.2.2.ai.bud0
            have q1 := SF.out.2.2.2.ai.chk0
            have q2 := SF.out.2.2.2.ai.sum
            have q3 := SF.out.2.2.2.ai.tot
            have HQ : Hid (∀ k, 0 ≤ sumL (sF.l.take k) ∧ sumL (sF.l.take k) ≤ sumL sF.l) := fun k => sumL_take_le SF.out.2.2.2.ai.amt k
            have HLN : Hid (sF.l.length ≤ n) := by have := SF.out.2.2.2.ai.len; rw [SF.out.2.2.1] at this; exact this
            go_loop [13, 15] (fun v13 v15 => ∃ k : Nat, v15 = .int .i64 k ∧ v13 = .int .i64 (sF.bud + sF.chk + sumL (sF.l.take k)) ∧ Hid (k ≤ sF.l.length)) (fun _ v15 => sF.l.length - (intOf v15).toNat)
            case atStart => exact ⟨0, rfl, congrArg (Value.int .i64) (by have := HE.out; rw [List.take_zero, sumL_nil]; omega), Nat.zero_le _⟩
            case round =>
              obtain ⟨k, rfl, rfl, HKL⟩ := hrel
              by_cases hk : k < sF.l.length
              · obtain ⟨y, hy⟩ : ∃ y, sF.l[k]? = some y := ⟨_, List.getElem?_eq_getElem hk⟩
                have cy := (HLI.out k y hy).2
                have HS1 := Lib.hid (sumL_take_succ hy)
                have y0 := SF.out.2.2.2.ai.amt y (List.mem_of_getElem? hy)
                have y1 := (HQ.out k).1
                have y2 := (HQ.out (k + 1)).2
                rw [HS1.out] at y2
                have kk0 : (0 : Int) ≤ k := by omega
                have kk1 : (k : Int) < sF.l.length := by omega
                have kk2 : (k : Int) < 32 := by have := HLN.out; omega
                have HKK := Lib.hid hk
                clear hk hy
                go_wp2
                go_round
                case rel => exact ⟨k + 1, rfl, congrArg (Value.int .i64) (by rw [HS1.out]; omega), HKK.out⟩
                case measure =>
                  have := HKK.out
                  show sF.l.length - (intOf (Value.int .i64 ((k : Int) + 1))).toNat < sF.l.length - (intOf (Value.int .i64 (k : Int))).toNat
                  simp only [intOf]
                  omega
              · have hkk : k = sF.l.length := by have := HKL.out; omega
                subst hkk
                have hlt : ¬ (sF.l.length : Int) < sF.l.length := by omega
                have hsum : sF.bud + sF.chk + sumL (sF.l.take sF.l.length) = b := by rw [List.take_length]; omega
                rw [hsum]
                clear hsum
                have hln : ¬ (n : Int) < sF.l.length := by have := HLN.out; omega
                obtain ⟨p0, p1, p2⟩ := HP.out.cells L4.out.bel
                have zc := HZC.out _ L4.out.bel
                clear hk q0 q1 q2 q3
                go_wp2
                go_roundw
                case rel =>
                  refine ⟨i + 1, sF, now + (1 + z), rfl, rfl, congrArg (Value.int .i64) (by have := HE.out; omega), congrArg (Value.int .i64) (by have := HE.out; omega), HII.out, L4.out, SF.out.2.2.2.later (by omega), by have := HR9.out; omega, SF.out.2.1, SF.out.2.2.1⟩
                case measure =>
                  have := HII.out
                  show gs.length - (intOf (Value.int .i64 ((i : Int) + 1))).toNat < gs.length - (intOf (Value.int .i64 (i : Int))).toNat
                  simp only [intOf]
                  omega
      · have hA' : now ≤ s.ran + 1 := by omega
        by_cases hz : s1.bud = 0
        · have HZ := Lib.hid hz
          have HC0 : Hid (s1.chk = 0) := by show _ = _; rw [HC.out, if_pos (.inr hz)]
          have hz' : (s1.bud == 0) = true := by simpa using hz
          clear hz HC hA
          go_upto_region 20 with (first
            | (go_at_call 37; refine HB.out.mono ?_; rintro e W2 ⟨rfl, s2⟩; have S2 := Lib.hid s2; clear s2)
            | (go_at_call 36; refine (S2.out.run0 hi200 HT.out HZ.out).mono ?_; rintro e W3 ⟨rfl, s3⟩; have SF : Hid (LS W0 B G b s1 W3 ∧ s1.per = p ∧ s1.cap = n ∧ GI b s1 (now + 1)) := ⟨s3, S2.out.2.2.2.1, S2.out.2.2.2.2, S2.out.2.1.later (by omega)⟩; clear s3))
          have HE : Hid (s1.bud = s1.bud ∧ s1.chk = 0 ∧ s1.ran = s.ran) := ⟨rfl, HC0.out, HRN.out⟩
          clear HB HR HT HC0 HRN S2 HZ
          have HRP := Lib.hid (repl_any SF.out.1.ss)
          go_upto_region 22 with (go_at_call 32; refine HRP.out.mono ?_; rintro e W4 ⟨g, rfl, hg, hl, hs, hb⟩; have L4 := Lib.hid (SF.out.1.more hb); have HLI := Lib.hid hl; clear hg hl hs hb HRP)
          have q0 := SF.out.2.2.2.ai.bud0
          have q1 := SF.out.2.2.2.ai.chk0
          have q2 := SF.out.2.2.2.ai.sum
          have q3 := SF.out.2.2.2.ai.tot
          have HQ : Hid (∀ k, 0 ≤ sumL (s1.l.take k) ∧ sumL (s1.l.take k) ≤ sumL s1.l) := fun k => sumL_take_le SF.out.2.2.2.ai.amt k
          have HLN : Hid (s1.l.length ≤ n) := by have := SF.out.2.2.2.ai.len; rw [SF.out.2.2.1] at this; exact this
          go_loop [13, 15] (fun v13 v15 => ∃ k : Nat, v15 = .int .i64 k ∧ v13 = .int .i64 (s1.bud + s1.chk + sumL (s1.l.take k)) ∧ Hid (k ≤ s1.l.length)) (fun _ v15 => s1.l.length - (intOf v15).toNat)
          case atStart => exact ⟨0, rfl, congrArg (Value.int .i64) (by have := HE.out; rw [List.take_zero, sumL_nil]; omega), Nat.zero_le _⟩
          case round =>
            obtain ⟨k, rfl, rfl, HKL⟩ := hrel
            by_cases hk : k < s1.l.length
            · obtain ⟨y, hy⟩ : ∃ y, s1.l[k]? = some y := ⟨_, List.getElem?_eq_getElem hk⟩
              have cy := (HLI.out k y hy).2
              have HS1 := Lib.hid (sumL_take_succ hy)
              have y0 := SF.out.2.2.2.ai.amt y (List.mem_of_getElem? hy)
              have y1 := (HQ.out k).1
              have y2 := (HQ.out (k + 1)).2
              rw [HS1.out] at y2
              have kk0 : (0 : Int) ≤ k := by omega
              have kk1 : (k : Int) < s1.l.length := by omega
              have kk2 : (k : Int) < 32 := by have := HLN.out; omega
              have HKK := Lib.hid hk
              clear hk hy
              go_wp2
              go_round
              case rel => exact ⟨k + 1, rfl, congrArg (Value.int .i64) (by rw [HS1.out]; omega), HKK.out⟩
              case measure =>
                have := HKK.out
                show s1.l.length - (intOf (Value.int .i64 ((k : Int) + 1))).toNat < s1.l.length - (intOf (Value.int .i64 (k : Int))).toNat
                simp only [intOf]
                omega
            · have hkk : k = s1.l.length := by have := HKL.out; omega
              subst hkk
              have hlt : ¬ (s1.l.length : Int) < s1.l.length := by omega
              have hsum : s1.bud + s1.chk + sumL (s1.l.take s1.l.length) = b := by rw [List.take_length]; omega
              rw [hsum]
              clear hsum
              have hln : ¬ (n : Int) < s1.l.length := by have := HLN.out; omega
              obtain ⟨p0, p1, p2⟩ := HP.out.cells L4.out.bel
              have zc := HZC.out _ L4.out.bel
              clear hk q0 q1 q2 q3
              go_wp2
              go_roundw
              case rel =>
                refine ⟨i + 1, s1, now + (1 + z), rfl, rfl, congrArg (Value.int .i64) (by have := HE.out; omega), congrArg (Value.int .i64) (by have := HE.out; omega), HII.out, L4.out, SF.out.2.2.2.later (by omega), by have := HR9.out; omega, SF.out.2.1, SF.out.2.2.1⟩
              case measure =>
                have := HII.out
                show gs.length - (intOf (Value.int .i64 ((i : Int) + 1))).toNat < gs.length - (intOf (Value.int .i64 (i : Int))).toNat
                simp only [intOf]
                omega
        · have HZ := Lib.hid hz
          have HC0 : Hid (s1.chk = s.chk) := by show _ = _; rw [HC.out, if_neg (fun e => e.elim hA hz)]
          have hz' : (s1.bud == 0) = false := by simpa using hz
          have hb2 : 1 ≤ s1.bud := by omega
          by_cases ho : s1.bud = 1
          · have HO := Lib.hid ho
            have ho' : (s1.bud - 1 == 0) = true := by rw [ho]; rfl
            clear hz ho HC hA
            go_upto_region 20 with (first
              | (go_at_call 37; refine HB.out.mono ?_; rintro e W2 ⟨rfl, s2⟩; have S2 := Lib.hid s2; clear s2)
              | (go_at_call 36; obtain ⟨sF, ⟨hf1, hf2, hf3, hf4, hf5, hf6⟩, hr⟩ := S2.out.run1 hi200 HT.out HZ.out; have HF1 := Lib.hid hf1; have HF2 := Lib.hid hf2; have HF3 := Lib.hid hf3; refine hr.mono ?_; rintro e W3 ⟨rfl, l3⟩; have SF := Lib.hid (And.intro l3 (And.intro hf4 (And.intro hf5 hf6))); clear l3 hr hf1 hf2 hf3 hf4 hf5 hf6))
            have HE : Hid (sF.bud = s1.bud - 1 ∧ sF.chk = 0 ∧ sF.ran = now) := ⟨HF1.out, by rw [HF2.out, if_pos HO.out], HF3.out⟩
            clear HB HR HT HC0 HRN S2 HF1 HF2 HF3 HO HZ
            have HRP := Lib.hid (repl_any SF.out.1.ss)
            go_upto_region 22 with (go_at_call 32; refine HRP.out.mono ?_; rintro e W4 ⟨g, rfl, hg, hl, hs, hb⟩; have L4 := Lib.hid (SF.out.1.more hb); have HLI := Lib.hid hl; clear hg hl hs hb HRP)
            have q0 := SF.out.2.2.2.ai.bud0
            have q1 := SF.out.2.2.2.ai.chk0
            have q2 := SF.out.2.2.2.ai.sum
            have q3 := SF.out.2.2.2.ai.tot
            have HQ : Hid (∀ k, 0 ≤ sumL (sF.l.take k) ∧ sumL (sF.l.take k) ≤ sumL sF.l) := fun k => sumL_take_le SF.out.2.2.2.ai.amt k
            have HLN : Hid (sF.l.length ≤ n) := by have := SF.out.2.2.2.ai.len; rw [SF.out.2.2.1] at this; exact this
            go_loop [13, 15] (fun v13 v15 => ∃ k : Nat, v15 = .int .i64 k ∧ v13 = .int .i64 (sF.bud + sF.chk + sumL (sF.l.take k)) ∧ Hid (k ≤ sF.l.length)) (fun _ v15 => sF.l.length - (intOf v15).toNat)
            case atStart => exact ⟨0, rfl, congrArg (Value.int .i64) (by have := HE.out; rw [List.take_zero, sumL_nil]; omega), Nat.zero_le _⟩
            case round =>
              obtain ⟨k, rfl, rfl, HKL⟩ := hrel
              by_cases hk : k < sF.l.length
              · obtain ⟨y, hy⟩ : ∃ y, sF.l[k]? = some y := ⟨_, List.getElem?_eq_getElem hk⟩
                have cy := (HLI.out k y hy).2
                have HS1 := Lib.hid (sumL_take_succ hy)
                have y0 := SF.out.2.2.2.ai.amt y (List.mem_of_getElem? hy)
                have y1 := (HQ.out k).1
                have y2 := (HQ.out (k + 1)).2
                rw [HS1.out] at y2
                have kk0 : (0 : Int) ≤ k := by omega
                have kk1 : (k : Int) < sF.l.length := by omega
                have kk2 : (k : Int) < 32 := by have := HLN.out; omega
                have HKK := Lib.hid hk
                clear hk hy
                go_wp2
                go_round
                case rel => exact ⟨k + 1, rfl, congrArg (Value.int .i64) (by rw [HS1.out]; omega), HKK.out⟩
                case measure =>
                  have := HKK.out
                  show sF.l.length - (intOf (Value.int .i64 ((k : Int) + 1))).toNat < sF.l.length - (intOf (Value.int .i64 (k : Int))).toNat
                  simp only [intOf]
                  omega
              · have hkk : k = sF.l.length := by have := HKL.out; omega
                subst hkk
                have hlt : ¬ (sF.l.length : Int) < sF.l.length := by omega
                have hsum : sF.bud + sF.chk + sumL (sF.l.take sF.l.length) = b := by rw [List.take_length]; omega
                rw [hsum]
                clear hsum
                have hln : ¬ (n : Int) < sF.l.length := by have := HLN.out; omega
                obtain ⟨p0, p1, p2⟩ := HP.out.cells L4.out.bel
                have zc := HZC.out _ L4.out.bel
                clear hk q0 q1 q2 q3
                go_wp2
                go_roundw
                case rel =>
                  refine ⟨i + 1, sF, now + (1 + z), rfl, rfl, congrArg (Value.int .i64) (by have := HE.out; omega), congrArg (Value.int .i64) (by have := HE.out; omega), HII.out, L4.out, SF.out.2.2.2.later (by omega), by have := HR9.out; omega, SF.out.2.1, SF.out.2.2.1⟩
                case measure =>
                  have := HII.out
                  show gs.length - (intOf (Value.int .i64 ((i : Int) + 1))).toNat < gs.length - (intOf (Value.int .i64 (i : Int))).toNat
                  simp only [intOf]
                  omega
          · have HO := Lib.hid ho
            have ho' : (s1.bud - 1 == 0) = false := by simp; omega
            clear hz ho HC hA
            go_upto_region 20 with (first
              | (go_at_call 37; refine HB.out.mono ?_; rintro e W2 ⟨rfl, s2⟩; have S2 := Lib.hid s2; clear s2)
              | (go_at_call 36; obtain ⟨sF, ⟨hf1, hf2, hf3, hf4, hf5, hf6⟩, hr⟩ := S2.out.run1 hi200 HT.out HZ.out; have HF1 := Lib.hid hf1; have HF2 := Lib.hid hf2; have HF3 := Lib.hid hf3; refine hr.mono ?_; rintro e W3 ⟨rfl, l3⟩; have SF := Lib.hid (And.intro l3 (And.intro hf4 (And.intro hf5 hf6))); clear l3 hr hf1 hf2 hf3 hf4 hf5 hf6))
            have HE : Hid (sF.bud = s1.bud - 1 ∧ sF.chk = s.chk + 1 ∧ sF.ran = now) := ⟨HF1.out, by rw [HF2.out, if_neg HO.out, HC0.out], HF3.out⟩
            clear HB HR HT HC0 HRN S2 HF1 HF2 HF3 HO HZ
            have HRP := Lib.hid (repl_any SF.out.1.ss)
            go_upto_region 22 with (go_at_call 32; refine HRP.out.mono ?_; rintro e W4 ⟨g, rfl, hg, hl, hs, hb⟩; have L4 := Lib.hid (SF.out.1.more hb); have HLI := Lib.hid hl; clear hg hl hs hb HRP)
            have q0 := SF.out.2.2.2.ai.bud0
            have q1 := SF.out.2.2.2.ai.chk0
            have q2 := SF.out.2.2.2.ai.sum
            have q3 := SF.out.2.2.2.ai.tot
            have HQ : Hid (∀ k, 0 ≤ sumL (sF.l.take k) ∧ sumL (sF.l.take k) ≤ sumL sF.l) := fun k => sumL_take_le SF.out.2.2.2.ai.amt k
            have HLN : Hid (sF.l.length ≤ n) := by have := SF.out.2.2.2.ai.len; rw [SF.out.2.2.1] at this; exact this
            go_loop [13, 15] (fun v13 v15 => ∃ k : Nat, v15 = .int .i64 k ∧ v13 = .int .i64 (sF.bud + sF.chk + sumL (sF.l.take k)) ∧ Hid (k ≤ sF.l.length)) (fun _ v15 => sF.l.length - (intOf v15).toNat)
            case atStart => exact ⟨0, rfl, congrArg (Value.int .i64) (by have := HE.out; rw [List.take_zero, sumL_nil]; omega), Nat.zero_le _⟩
            case round =>
              obtain ⟨k, rfl, rfl, HKL⟩ := hrel
              by_cases hk : k < sF.l.length
              · obtain ⟨y, hy⟩ : ∃ y, sF.l[k]? = some y := ⟨_, List.getElem?_eq_getElem hk⟩
                have cy := (HLI.out k y hy).2
                have HS1 := Lib.hid (sumL_take_succ hy)
                have y0 := SF.out.2.2.2.ai.amt y (List.mem_of_getElem? hy)
                have y1 := (HQ.out k).1
                have y2 := (HQ.out (k + 1)).2
                rw [HS1.out] at y2
                have kk0 : (0 : Int) ≤ k := by omega
                have kk1 : (k : Int) < sF.l.length := by omega
                have kk2 : (k : Int) < 32 := by have := HLN.out; omega
                have HKK := Lib.hid hk
                clear hk hy
                go_wp2
                go_round
                case rel => exact ⟨k + 1, rfl, congrArg (Value.int .i64) (by rw [HS1.out]; omega), HKK.out⟩
                case measure =>
                  have := HKK.out
                  show sF.l.length - (intOf (Value.int .i64 ((k : Int) + 1))).toNat < sF.l.length - (intOf (Value.int .i64 (k : Int))).toNat
                  simp only [intOf]
                  omega
              · have hkk : k = sF.l.length := by have := HKL.out; omega
                subst hkk
                have hlt : ¬ (sF.l.length : Int) < sF.l.length := by omega
                have hsum : sF.bud + sF.chk + sumL (sF.l.take sF.l.length) = b := by rw [List.take_length]; omega
                rw [hsum]
                clear hsum
                have hln : ¬ (n : Int) < sF.l.length := by have := HLN.out; omega
                obtain ⟨p0, p1, p2⟩ := HP.out.cells L4.out.bel
                have zc := HZC.out _ L4.out.bel
                clear hk q0 q1 q2 q3
                go_wp2
                go_roundw
                case rel =>
                  refine ⟨i + 1, sF, now + (1 + z), rfl, rfl, congrArg (Value.int .i64) (by have := HE.out; omega), congrArg (Value.int .i64) (by have := HE.out; omega), HII.out, L4.out, SF.out.2.2.2.later (by omega), by have := HR9.out; omega, SF.out.2.1, SF.out.2.2.1⟩
                case measure =>
                  have := HII.out
                  show gs.length - (intOf (Value.int .i64 ((i : Int) + 1))).toNat < gs.length - (intOf (Value.int .i64 (i : Int))).toNat
                  simp only [intOf]
                  omega
    · have hii : i = gs.length := by have := HR.out.1; omega
      subst hii
      have hlt : ¬ (gs.length : Int) < gs.length := by omega
      obtain ⟨L1, g1, g2, g3, g4⟩ := HR.out.2
      obtain ⟨p0, p1, _⟩ := HP.out.cells L1.bel
      have n0 : 0 ≤ now := g1.n0
      have n1 : now ≤ 51200 := by have := HLEN.out; omega
      have r0 : -1 ≤ s.ran := g1.ai.ran0
      have r1 : s.ran ≤ 51200 := by have := g1.ran; omega
      have key : ∀ t, s.ran + 1 + p ≤ t → now ≤ t → t ≤ 1099511627776 → Hid (Calls Try.prog 37 #[.pointer (some ⟨B, 0, none⟩), .int .i64 t] wr fun e W' => e = .returned (.tuple #[.int .i64 b, .int .i64 0]) ∧ LS W0 B G b (tellA t s) W') := fun t h1 h2 h3 => by
        have hg := g1.later h2
        obtain ⟨e1, e2⟩ := hg.bud h3
        have hf := g1.full (by rw [g3]; exact h1) h2
        have := L1.call (budget_any L1.ss t)
        rw [e1, e2, hf] at this
        exact this
      by_cases hat : s.ran + 1 + p < now
      · have HK := key now (by omega) (by omega) (by omega)
        clear hi L1 g1 g2 g3 g4 key
        go_wp2_with (first
          | (go_at_call 37; refine HK.out.mono ?_; rintro e W2 ⟨rfl, l2⟩; obtain ⟨p0', _, _⟩ := HP.out.cells l2.bel; have L2 := Lib.hid l2; clear l2)
          | (go_at_call 27; refine (awake_any _).mono ?_; rintro e W3 ⟨rfl, g3⟩; have G3 := Lib.hid g3; clear g3))
        go_ret
        have hb := HP.out.all L2.out.bel
        exact ⟨rfl, hb.trans (G3.out.mono hb.size)⟩
      · have HK := key (s.ran + 1 + p) (by omega) (by omega) (by omega)
        have hat' : now ≤ s.ran + 1 + p := by omega
        clear hi L1 g1 g2 g3 g4 key hat
        go_wp2_with (first
          | (go_at_call 37; refine HK.out.mono ?_; rintro e W2 ⟨rfl, l2⟩; obtain ⟨p0', _, _⟩ := HP.out.cells l2.bel; have L2 := Lib.hid l2; clear l2)
          | (go_at_call 27; refine (awake_any _).mono ?_; rintro e W3 ⟨rfl, g3⟩; have G3 := Lib.hid g3; clear g3))
        go_ret
        have hb := HP.out.all L2.out.bel
        exact ⟨rfl, hb.trans (G3.out.mono hb.size)⟩
end Go.Proofs.Ytibmmonboeifhaa
