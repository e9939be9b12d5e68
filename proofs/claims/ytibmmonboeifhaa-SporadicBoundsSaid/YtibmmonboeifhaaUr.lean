/- SporadicBounds: the walk. -/
import Derived.Test.YtibmmonboeifhaaUx
namespace Go.Proofs.Ytibmmonboeifhaa
open Go.RowKit
set_option linter.unusedVariables false

set_option maxRecDepth 100000 in
set_option maxHeartbeats 1000000 in
theorem bounds_bad (a : Option Addr) (len cap : Nat) (b p n l : Int) (h : okP b p n l ≠ true) (w : World) : Calls Try.prog 7 #[.agg (parA b p n l), .slice a len cap] w fun e w' => e = .returned (.bool true) ∧ Below w.heap.size w w' := by
  have HP := Lib.hid (PX.new w b p n l)
  have HS : Hid ((Try.prog.info? 45).map (·.size) = some (parA b p n l).size) := by show _ = _; unfold parA; kernel_rfl
  have HN := Lib.hid (fun W => new_bad b p n l h W)
  clear h
  go_enter Try.func7, Try.ntmps7
  go_upto_region 1 with (fail)
  generalize World.alloc w _ = W0 at HP ⊢
  generalize w.heap.size = x at HP ⊢
  go_wp2_with (first
    | (refine wpList_load_row rfl 45 _ rfl x rfl 45 (parA b p n l) (0, 0) _ HP.out.row Try.underlying45 rfl HS.out ?_)
    | (go_at_call 24; refine (HN.out _).mono ?_; rintro e W1 ⟨rfl, g1⟩; have G1 := Lib.hid g1; clear g1)
    | (go_at_call 27; refine (awake_any _).mono ?_; rintro e W2 ⟨rfl, g2⟩; have G2 := Lib.hid g2; clear g2))
  go_ret
  exact ⟨rfl, HP.out.all (G1.out.trans (G2.out.mono G1.out.size))⟩
set_option maxRecDepth 100000 in
set_option maxHeartbeats 1000000 in
theorem bounds_long (a : Option Addr) (len cap : Nat) (hlen : 200 < len) (b p : Int) (n : Nat) (l : Int) (h : okP b p n l = true) (w : World) : Calls Try.prog 7 #[.agg (parA b p n l), .slice a len cap] w fun e w' => e = .returned (.bool true) ∧ Below w.heap.size w w' := by
  have HP := Lib.hid (PX.new w b p n l)
  have HS : Hid ((Try.prog.info? 45).map (·.size) = some (parA b p n l).size) := by show _ = _; unfold parA; kernel_rfl
  have HN := Lib.hid (fun W => new_ok b p n l h W)
  have h200 : (200 : Int) < len := by omega
  clear h hlen
  go_enter Try.func7, Try.ntmps7
  go_upto_region 1 with (fail)
  generalize World.alloc w _ = W0 at HP ⊢
  generalize w.heap.size = x at HP ⊢
  go_wp2_with (first
    | (refine wpList_load_row rfl 45 _ rfl x rfl 45 (parA b p n l) (0, 0) _ HP.out.row Try.underlying45 rfl HS.out ?_)
    | (go_at_call 24; refine (HN.out _).mono ?_; rintro e W1 ⟨B, G, rfl, k1, k2, k3, g1⟩; have G1 := Lib.hid g1; clear g1 k1 k2 k3)
    | (go_at_call 27; refine (awake_any _).mono ?_; rintro e W2 ⟨rfl, g2⟩; have G2 := Lib.hid g2; clear g2))
  go_ret
  exact ⟨rfl, HP.out.all (G1.out.trans (G2.out.mono G1.out.size))⟩

theorem info_i64 : (Try.prog.info? 2).map (fun i => (i.zero, i.size, i.bytes)) = some (some (.int .i64 0), 1, 8) := by kernel_rfl
/-- What the second loop reads. -/
def QW (w : World) (x : Nat) (b p : Int) (g : Nat) (ts : List Int) (W : World) : Prop := (∀ (j : Nat) (y : Int), ts[j]? = some y → W.cell? ⟨g, j, none⟩ = some (.int .i64 y)) ∧ W.cell? ⟨x, 0, none⟩ = some (.int .i64 b) ∧ W.cell? ⟨x, 1, none⟩ = some (.int .i64 p) ∧ Below w.heap.size w W
theorem QW.drewN {w W : World} {x g : Nat} {b p : Int} {ts : List Int} (h : QW w x b p g ts W) (n : Nat) : QW w x b p g ts (W.drewN n) :=
  ⟨h.1, h.2.1, h.2.2.1, ⟨h.2.2.2.os, h.2.2.2.tape, h.2.2.2.output, h.2.2.2.size, h.2.2.2.block⟩⟩

set_option maxRecDepth 100000 in
set_option maxHeartbeats 4000000 in
theorem bounds_walk (a : Option Addr) (cap : Nat) (gs : List Int) (hlen : gs.length ≤ 200) (b p : Int) (n : Nat) (l : Int) (h : okP b p n l = true) (w : World) (hg : BytesIn w a gs) : Calls Try.prog 7 #[.agg (parA b p n l), .slice a gs.length cap] w fun e w' => e = .returned (.bool true) ∧ Below w.heap.size w w' := by
  have HP := Lib.hid (PX.new w b p n l)
  have HS : Hid ((Try.prog.info? 45).map (·.size) = some (parA b p n l).size) := by show _ = _; unfold parA; kernel_rfl
  have HN := Lib.hid (fun W => new_ls b p n l h (w := W) (Below.refl _ W))
  have h200 : ¬ (200 : Int) < gs.length := by omega
  obtain ⟨k1, k2, k3, k4, k5, k6⟩ := (okP_iff _ _ _ _).1 h
  obtain ⟨i0, hi0, hz0, hz1, hz2⟩ := info_parts info_i64
  have HI0 := Lib.hid hi0
  have HZ0 := Lib.hid hz0
  have HZ1 := Lib.hid hz1
  have HZ2 := Lib.hid hz2
  have HLEN : Hid (gs.length ≤ 200) := hlen
  have HGI := Lib.hid (new_gi b p n l h)
  have HGS := Lib.hid hg
  clear h hlen k6 hg hi0 hz0 hz1 hz2
  go_enter Try.func7, Try.ntmps7
  go_upto_region 1 with (fail)
  generalize World.alloc w _ = W0 at HP ⊢
  generalize hgg : w.heap.size = x at HP ⊢
  have HGG := Lib.hid hgg
  clear hgg
  go_wp2_with (first
    | (refine wpList_load_row rfl 45 _ rfl x rfl 45 (parA b p n l) (0, 0) _ HP.out.row Try.underlying45 rfl HS.out ?_)
    | (go_at_call 24; refine (HN.out _).mono ?_; rintro e W1 ⟨B, G, rfl, s1⟩; have S1 : Hid (BD W0 B G b p n W1.heap.size 0 (newA b p n l) 0 [] (.slice none 0 0) W1) := ⟨⟨s1, HGI.out, Int.le_refl _, rfl, rfl⟩, ⟨fun t ht => (nomatch ht), fun a _ => Int.le_refl _⟩, fun i k x y hx => by simp at hx, List.Pairwise.nil, Nat.le_refl _, fun t ht => (nomatch ht), World.ownsRow_nil _ _ _ _, s1.ss.lt.1, s1.ss.lt.2.1, s1.bel.size, Nat.le_refl _⟩; clear s1))
  generalize W1.heap.size = base at S1
  go_loopw [7, 8, 9] (fun v7 v8 v9 wr => ∃ (i : Nat) (s : AQ) (now : Int) (ts : List Int), v9 = .int .i64 i ∧ v8 = .int .i64 now ∧ Hid (i ≤ gs.length ∧ BD W0 B G b p n base i s now ts v7 wr)) (fun v7 v8 v9 _ => gs.length - (intOf v9).toNat)
  case atStart => exact ⟨0, newA b p n l, 0, [], rfl, rfl, Nat.zero_le _, S1.out⟩
  case round =>
    obtain ⟨i, s, now, ts, rfl, rfl, HR⟩ := hrel
    by_cases hi : i < gs.length
    · have i1 : (0 : Int) ≤ i := by omega
      have i2 : (i : Int) < gs.length := by omega
      have hi200 : i ≤ 200 := by have := HLEN.out; omega
      have HII := Lib.hid hi
      have HD := Lib.hid HR.out.2
      obtain ⟨bb, off, z, rfl, zcl, z0, z1⟩ := HGS.out.all hi
      have HZC : Hid (∀ W, Below W0.heap.size W0 W → W.cell? ⟨bb, off + i, none⟩ = some (.int .u8 z)) := fun W hb => zcl W (HP.out.all hb)
      have n0 : 0 ≤ now := HR.out.2.sm.2.1.n0
      have n1 : now ≤ 51200 := by have := HR.out.2.sm.2.2.1; omega
      have HTS : Hid (ts.length ≤ 200) := by have := HR.out.2.len; show _ ≤ _; omega
      clear zcl hi HR S1
      by_cases hb : (tellA now s).bud = 0
      · have HRUN := Lib.hid (HD.out.run0 hi200 hb)
        clear hb
        go_upto_region 11 with (go_at_call 36; refine HRUN.out.mono ?_; rintro e W2 ⟨rfl, d2⟩; have D2 := Lib.hid d2; clear d2)
        have zc := HZC.out _ D2.out.sm.1.bel
        go_wp2
        go_roundw
        case rel => exact ⟨i + 1, _, now + (1 + z), ts, rfl, rfl, HII.out, D2.out.next0 D2.out.sm.2.1 z0 z1⟩
        case measure =>
          have := HII.out
          show gs.length - (intOf (Value.int .i64 ((i : Int) + 1))).toNat < gs.length - (intOf (Value.int .i64 (i : Int))).toNat
          simp only [intOf]
          omega
      · obtain ⟨s3, HK, hrun⟩ := HD.out.run1 hi200 hb
        have HRUN := Lib.hid hrun
        clear hb hrun
        go_upto_region 10 with (go_at_call 36; refine HRUN.out.mono ?_; rintro e W2 ⟨rfl, l2, o2, z2⟩; have L2 := Lib.hid l2; have O2 := Lib.hid o2; have Z2 := Lib.hid z2; clear l2 o2 z2)
        go_wp2_with (at_builtin; refine wpList_append_own _ rfl _ _ 69 rfl base 2 i0 (.int .i64 0) 1 8 Try.underlying69 HI0.out HZ0.out HZ1.out HZ2.out rfl (by decide) _ _ _ rfl (World.ownsRow.alloc O2.out _) ⟨W2.heap.size, 0, none⟩ 1 1 [.int .i64 now] rfl rfl ?c1 ?c2 ?c3 ?c4 ?c5 ?_)
        case c1 => exact news_row W2 _ [.int .i64 now]
        case c2 => simp [Value.oneCell']
        case c3 => have := HTS.out; unfold maxLen; omega
        case c4 => have := HTS.out; omega
        case c5 => have := Z2.out; simp; omega
        intro v' w1 hown hgrow _
        have HB1 := Lib.hid (HD.out.next1 hi200 HK.out L2.out Z2.out hown hgrow z0 z1)
        have zc := HZC.out _ HB1.out.sm.1.bel
        clear hown hgrow
        go_wp2
        go_roundw
        case rel => exact ⟨i + 1, s3, now + (1 + z), ts ++ [now], rfl, rfl, HII.out, HB1.out⟩
        case measure =>
          have := HII.out
          show gs.length - (intOf (Value.int .i64 ((i : Int) + 1))).toNat < gs.length - (intOf (Value.int .i64 (i : Int))).toNat
          simp only [intOf]
          omega
    · have hii : i = gs.length := by have := HR.out.1; omega
      subst hii
      have hlt : ¬ (gs.length : Int) < gs.length := by omega
      have HD := Lib.hid HR.out.2
      have HTS : Hid (ts.length ≤ 200) := by have := HR.out.2.len; have := HLEN.out; show _ ≤ _; omega
      obtain ⟨a7, c7, rfl, hsl⟩ := sl_own HD.out.own
      obtain ⟨p0, p1, _⟩ := HP.out.cells HD.out.sm.1.bel
      have HBL := Lib.hid (HP.out.all HD.out.sm.1.bel)
      have HSL : Hid (ts = [] ∨ ∃ g, a7 = some ⟨g, 0, none⟩ ∧ QW w x b p g ts wr) := hsl.imp id fun ⟨g, e, hc⟩ => ⟨g, e, hc, p0, p1, HBL.out⟩
      have HP01 := Lib.hid (And.intro p0 p1)
      have HFEW := Lib.hid HD.out.few
      have HRNG := Lib.hid HD.out.rng
      clear hi HR S1 hsl p0 p1 HD
      go_wp2
      go_loopw [10, 11] (fun v10 v11 wr2 => ∃ i : Nat, v10 = .int .i64 i ∧ Hid (i ≤ ts.length ∧ (ts = [] ∨ ∃ g, a7 = some ⟨g, 0, none⟩ ∧ QW w x b p g ts wr2) ∧ Below w.heap.size w wr2)) (fun v10 v11 _ => ts.length - (intOf v10).toNat)
      case atStart => exact ⟨0, rfl, Nat.zero_le _, HSL.out, HBL.out⟩
      case round =>
        obtain ⟨i, rfl, HR⟩ := hrel
        by_cases hi : i < ts.length
        · obtain ⟨g, rfl, hq⟩ : ∃ g, a7 = some ⟨g, 0, none⟩ ∧ QW w x b p g ts wr := by
            rcases HR.out.2.1 with e | e
            · rw [e] at hi; cases hi
            · exact e
          have HQ := Lib.hid hq
          have HII := Lib.hid hi
          obtain ⟨xi, hxi⟩ : ∃ y, ts[i]? = some y := ⟨_, List.getElem?_eq_getElem hi⟩
          obtain ⟨x0, x1⟩ := HRNG.out xi (List.mem_of_getElem? hxi)
          have HXI := Lib.hid hxi
          have i1 : (0 : Int) ≤ i := by omega
          have i2 : (i : Int) < ts.length := by omega
          have i3 : (ts.length : Int) ≤ 200 := by have := HTS.out; omega
          clear hi hq hxi HR HSL
          go_wp2
          go_loopw [11] (fun v11 wr3 => ∃ k : Nat, v11 = .int .i64 k ∧ Hid (i ≤ k ∧ k ≤ ts.length ∧ (∀ j y, i ≤ j → j < k → ts[j]? = some y → y < xi + p) ∧ QW w x b p g ts wr3)) (fun v11 _ => ts.length - (intOf v11).toNat)
          case atStart => exact ⟨i, rfl, Nat.le_refl _, Nat.le_of_lt HII.out, fun j y h1 h2 => absurd h2 (by omega), HQ.out⟩
          case round =>
            obtain ⟨k, rfl, HR⟩ := hrel
            have c0 := HR.out.2.2.2.2.1
            have c1 := HR.out.2.2.2.2.2.1
            have ci := HR.out.2.2.2.1 i xi HXI.out
            have q0 : (i : Int) ≤ k := by have := HR.out.1; omega
            have q1 : (k : Int) ≤ ts.length := by have := HR.out.2.1; omega
            have q2 : (0 : Int) ≤ k := by omega
            have HFL : Hid ((k : Int) - i ≤ b) := few_len HFEW.out HXI.out (by omega) HR.out.1 HR.out.2.2.1 HR.out.2.1
            by_cases hk : k < ts.length
            · obtain ⟨y, hy⟩ : ∃ y, ts[k]? = some y := ⟨_, List.getElem?_eq_getElem hk⟩
              obtain ⟨y0, y1⟩ := HRNG.out y (List.mem_of_getElem? hy)
              have ck := HR.out.2.2.2.1 k y hy
              have HY := Lib.hid hy
              have HKK := Lib.hid hk
              have q3 : (k : Int) < ts.length := by omega
              have q4 : decide ((k : Int) < ts.length) = true := by simpa using q3
              have q5 : IntKind.i64.wrap (xi + p) = xi + p := IntWalk.i64_in _ (by omega)
              clear hk hy
              by_cases hlt2 : y < xi + p
              · have HLT := Lib.hid hlt2
                go_upto_region 16 with (fail)
                go_quiet (fail)
                have HQ9 := Lib.hid (HR.out.2.2.2.drewN nq)
                go_wp2
                go_roundw
                case rel =>
                  refine ⟨k + 1, rfl, Nat.le_succ_of_le HR.out.1, HKK.out, fun j y' h1 h2 hy' => ?_, HQ9.out⟩
                  by_cases e : j = k
                  · subst e
                    rw [HY.out] at hy'
                    injection hy' with e
                    rw [← e]; exact HLT.out
                  · exact HR.out.2.2.1 j y' h1 (by omega) hy'
                case measure =>
                  have := HKK.out
                  show ts.length - (intOf (Value.int .i64 ((k : Int) + 1))).toNat < ts.length - (intOf (Value.int .i64 (k : Int))).toNat
                  simp only [intOf]
                  omega
              · have hlt3 : xi + p ≤ y := by omega
                have hlt4 : decide (y < xi + p) = false := by simpa using hlt3
                clear hlt2
                go_upto_region 16 with (fail)
                go_quiet (fail)
                have HQ9 := Lib.hid (HR.out.2.2.2.drewN nq)
                have hfl : (k : Int) - i ≤ b := HFL.out
                go_wp2
                go_roundw
                case rel => exact ⟨i + 1, rfl, HII.out, .inr ⟨g, rfl, HQ9.out⟩, HQ9.out.2.2.2⟩
                case measure =>
                  have := HII.out
                  show ts.length - (intOf (Value.int .i64 ((i : Int) + 1))).toNat < ts.length - (intOf (Value.int .i64 (i : Int))).toNat
                  simp only [intOf]
                  omega
            · have hkk : k = ts.length := by have := HR.out.2.1; omega
              subst hkk
              have q4 : decide ((ts.length : Int) < ts.length) = false := by simp
              clear hk
              go_upto_region 16 with (fail)
              go_quiet (fail)
              have HQ9 := Lib.hid (HR.out.2.2.2.drewN nq)
              have hfl : (ts.length : Int) - i ≤ b := HFL.out
              go_wp2
              go_roundw
              case rel => exact ⟨i + 1, rfl, HII.out, .inr ⟨g, rfl, HQ9.out⟩, HQ9.out.2.2.2⟩
              case measure =>
                have := HII.out
                show ts.length - (intOf (Value.int .i64 ((i : Int) + 1))).toNat < ts.length - (intOf (Value.int .i64 (i : Int))).toNat
                simp only [intOf]
                omega
        · have hii : i = ts.length := by have := HR.out.1; omega
          subst hii
          have hlt : ¬ (ts.length : Int) < ts.length := by omega
          clear hi
          go_wp2_with (go_at_call 27; refine (awake_any _).mono ?_; rintro e W3 ⟨rfl, g3⟩; have G3 := Lib.hid g3; clear g3)
          go_ret
          have hb := HR.out.2.2
          exact ⟨rfl, hb.trans (G3.out.mono hb.size)⟩
end Go.Proofs.Ytibmmonboeifhaa
