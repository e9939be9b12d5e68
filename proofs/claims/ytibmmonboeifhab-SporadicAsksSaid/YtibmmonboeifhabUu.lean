/- SporadicAsks: the walk. -/
import Derived.Test.YtibmmonboeifhabUt
namespace Go.Proofs.Ytibmmonboeifhab
open Go.RowKit
set_option linter.unusedVariables false

set_option maxRecDepth 100000 in
set_option maxHeartbeats 4000000 in
theorem asks_walk (a : Option Addr) (cap : Nat) (gs : List Int) (hlen : gs.length ≤ 200) (b p : Int) (n : Nat) (l : Int) (ak : Int) (hak0 : 0 ≤ ak) (hak1 : ak < 18446744073709551616) (h : okP b p n l = true) (w : World) (hg : BytesIn w a gs) : Calls Try.prog 3 #[.agg (parA b p n l), .slice a gs.length cap, .int .u64 ak] w fun e w' => e = .returned (.bool true) ∧ Below w.heap.size w w' := by
  have HP := Lib.hid (PX.new w b p n l)
  have HS : Hid ((Try.prog.info? 23).map (·.size) = some (parA b p n l).size) := by show _ = _; unfold parA; kernel_rfl
  have HN : Hid (∀ W, Calls Try.prog 5 #[.agg (parA b p n l)] W fun e W' => ∃ B G, e = .returned (.tuple #[.pointer (some ⟨B, 0, none⟩), .int .i64 0]) ∧ LS W B G b (newA b p n l) W') := fun W => new_ls b p n l h (w := W) (Below.refl _ W)
  have h200 : ¬ (200 : Int) < gs.length := by omega
  have HLEN : Hid (gs.length ≤ 200) := hlen
  have HGI := Lib.hid (new_gi b p n l h)
  have HGS := Lib.hid hg
  have HAK := Lib.hid (And.intro hak0 hak1)
  clear h hlen hg hak1
  go_enter Try.func3, Try.ntmps3
  go_upto_region 1 with (fail)
  generalize World.alloc w _ = W0 at HP ⊢
  generalize hgg : w.heap.size = x at HP ⊢
  have HGG := Lib.hid hgg
  clear hgg
  go_upto_region 2 with (first
    | (refine wpList_load_row rfl 23 _ rfl x rfl 23 (parA b p n l) (0, 0) _ HP.out.row Try.underlying23 rfl HS.out ?_)
    | (go_at_call 5; refine (HN.out _).mono ?_; rintro e W1 ⟨B, G, rfl, l1⟩; have L1 := Lib.hid l1; clear l1))
  have HP1 := Lib.hid (HP.out.row.below L1.out.bel HP.out.row.lt)
  go_upto_region 3 with (first
    | (refine wpList_load_row rfl 23 _ rfl x rfl 23 (parA b p n l) (0, 0) _ HP1.out Try.underlying23 rfl HS.out ?_)
    | (go_at_call 5; refine (HN.out _).mono ?_; rintro e W2 ⟨B2, G2, rfl, l2⟩; have L2 := Lib.hid l2; clear l2))
  have HTW : Hid (AskI W0 B G B2 G2 b 0 (newA b p n l) (newA b p n l) 0 W2) := by
    obtain ⟨k1, k2, _⟩ := L1.out.ss.lt
    have k3 := L2.out.b
    have k4 := L2.out.g
    have l1' := L1.out.more L2.out.bel
    exact ⟨⟨l1', ⟨L2.out.ss, l1'.bel, Nat.le_trans L1.out.bel.size k3, Nat.le_trans L1.out.bel.size k4⟩, by omega, by omega, by omega, by omega⟩, HGI.out, HGI.out, fun _ _ => rfl, Int.le_refl _⟩
  clear L1 L2 HP1 HN
  go_wp2
  go_loopw [11, 12] (fun v11 v12 wr => ∃ (i : Nat) (s t : AQ) (now : Int), v12 = .int .i64 i ∧ v11 = .int .i64 now ∧ Hid (i ≤ gs.length ∧ AskI W0 B G B2 G2 b i s t now wr)) (fun v11 v12 _ => gs.length - (intOf v12).toNat)
  case atStart => exact ⟨0, _, _, 0, rfl, rfl, Nat.zero_le _, HTW.out⟩
  case round =>
    obtain ⟨i, s, t, now, rfl, rfl, HR⟩ := hrel
    by_cases hi : i < gs.length
    · have i1 : (0 : Int) ≤ i := by omega
      have i2 : (i : Int) < gs.length := by omega
      have i3 : (i : Int) < 200 := by have := HLEN.out; omega
      have hi200 : i ≤ 200 := by omega
      have HII := Lib.hid hi
      obtain ⟨bb, off, z, rfl, zcl, z0, z1⟩ := HGS.out.all hi
      have HZC : Hid (∀ W, Below W0.heap.size W0 W → W.cell? ⟨bb, off + i, none⟩ = some (.int .u8 z)) := fun W hb => zcl W (HP.out.all hb)
      have n0 : 0 ≤ now := HR.out.2.gs.n0
      have n1 : now ≤ 51200 := by have := HR.out.2.le; omega
      have HR9 := Lib.hid HR.out.2.le
      have HA0 : Hid (∃ t, AskI W0 B G B2 G2 b i s t now wr) := ⟨t, HR.out.2⟩
      have HB := Lib.hid (HR.out.2.ask hi200)
      clear zcl hi HR HTW
      go_upto_region 11 with (go_at_call 7; refine HB.out.mono ?_; rintro e W3 ⟨zz, rfl, ht⟩; have HA1 := Lib.hid ht; clear ht)
      all_goals
        first
          | (have HA2 := HA1)
          | (have HA2 := HA0)
        obtain ⟨t1, hA3⟩ := HA2.out
        have HA3 := Lib.hid hA3
        obtain ⟨v, s3, HG3, HRA, HRB⟩ := hA3.run hi200
        have hvv : (v != v) = false := by simp
        clear hA3 HA2 HA0 HB
        go_upto_region 13 with (first
          | (go_at_call 8; refine HRA.out.mono ?_; rintro e W4 ⟨rfl, t4⟩; have T4 := Lib.hid t4; clear t4 HRA)
          | (go_at_call 8; refine (HRB.out _ T4.out).mono ?_; rintro e W5 ⟨rfl, t5⟩; have T5 := Lib.hid t5; clear t5))
        have zc := HZC.out _ T5.out.a.bel
        have HN0 : Hid (AskI W0 B G B2 G2 b (i + 1) s3 s3 (now + (1 + z)) W5) := AskI.next T5.out HG3.out HG3.out (fun _ _ => rfl) HR9.out z0 z1
        have HPR := Lib.hid (ask_pri (i := i) T5.out HG3.out n1)
        have HCX : Hid (∀ W, (∃ t, TW W0 B G B2 G2 b s3 t W ∧ GI b t (now + 1) ∧ ∀ y, now + 1 ≤ y → tellA y t = tellA y s3) → ∃ t, AskI W0 B G B2 G2 b (i + 1) s3 t (now + (1 + z)) W) := fun W ⟨t, h1, h2, h3⟩ => ⟨t, AskI.next h1 HG3.out h2 h3 HR9.out z0 z1⟩
        by_cases hc : (bits BinOp.and IntKind.u64 (ak / 2 ^ ((i + 7) % 64)) 1 == 1) = true
        · by_cases hz : 0 < z
          · go_upto_region 15 with (go_at_call 9; refine HPR.out.mono ?_; rintro e W6 ⟨yy, zz, rfl, ht⟩; have HT6 := Lib.hid ht; clear ht zc)
            obtain ⟨t6, ht6⟩ := HCX.out _ HT6.out
            have zc := HZC.out _ ht6.tw.a.bel
            have HN6 := Lib.hid ht6
            clear ht6
            go_wp2
            go_roundw
            case rel => exact ⟨i + 1, s3, t6, now + (1 + z), rfl, rfl, HII.out, HN6.out⟩
            case measure =>
              have := HII.out
              show gs.length - (intOf (Value.int .i64 ((i : Int) + 1))).toNat < gs.length - (intOf (Value.int .i64 (i : Int))).toNat
              simp only [intOf]
              omega
          · have hz' : z ≤ 0 := by omega
            clear hz
            go_wp2
            go_roundw
            case rel => exact ⟨i + 1, s3, s3, now + (1 + z), rfl, rfl, HII.out, HN0.out⟩
            case measure =>
              have := HII.out
              show gs.length - (intOf (Value.int .i64 ((i : Int) + 1))).toNat < gs.length - (intOf (Value.int .i64 (i : Int))).toNat
              simp only [intOf]
              omega
        · have hc' : (bits BinOp.and IntKind.u64 (ak / 2 ^ ((i + 7) % 64)) 1 == 1) = false := by simpa using hc
          clear hc
          go_wp2
          go_roundw
          case rel => exact ⟨i + 1, s3, s3, now + (1 + z), rfl, rfl, HII.out, HN0.out⟩
          case measure =>
            have := HII.out
            show gs.length - (intOf (Value.int .i64 ((i : Int) + 1))).toNat < gs.length - (intOf (Value.int .i64 (i : Int))).toNat
            simp only [intOf]
            omega
    · have hii : i = gs.length := by have := HR.out.1; omega
      subst hii
      have hlt : ¬ (gs.length : Int) < gs.length := by omega
      have HE := Lib.hid (HP.out.all HR.out.2.tw.a.bel)
      clear hi HR
      go_wp2_with (go_at_call 6; refine (awake_any _).mono ?_; rintro e W3 ⟨rfl, g3⟩; have G3 := Lib.hid g3; clear g3)
      go_ret
      exact ⟨rfl, HE.out.trans (G3.out.mono HE.out.size)⟩

set_option maxRecDepth 100000 in
set_option maxHeartbeats 1000000 in
theorem asks_bad (a : Option Addr) (len cap : Nat) (b p n l ak : Int) (h : okP b p n l ≠ true) (w : World) : Calls Try.prog 3 #[.agg (parA b p n l), .slice a len cap, .int .u64 ak] w fun e w' => e = .returned (.bool true) ∧ Below w.heap.size w w' := by
  have HP := Lib.hid (PX.new w b p n l)
  have HS : Hid ((Try.prog.info? 23).map (·.size) = some (parA b p n l).size) := by show _ = _; unfold parA; kernel_rfl
  have HN := Lib.hid (fun W => new_bad b p n l h W)
  clear h
  go_enter Try.func3, Try.ntmps3
  go_upto_region 1 with (fail)
  generalize World.alloc w _ = W0 at HP ⊢
  generalize w.heap.size = x at HP ⊢
  go_upto_region 2 with (first
    | (refine wpList_load_row rfl 23 _ rfl x rfl 23 (parA b p n l) (0, 0) _ HP.out.row Try.underlying23 rfl HS.out ?_)
    | (go_at_call 5; refine (HN.out _).mono ?_; rintro e W1 ⟨rfl, g1⟩; have G1 := Lib.hid g1; clear g1))
  have HP1 := Lib.hid (HP.out.row.below G1.out HP.out.row.lt)
  go_wp2_with (first
    | (refine wpList_load_row rfl 23 _ rfl x rfl 23 (parA b p n l) (0, 0) _ HP1.out Try.underlying23 rfl HS.out ?_)
    | (go_at_call 5; refine (HN.out _).mono ?_; rintro e W2 ⟨rfl, g2⟩; have G2 := Lib.hid (G1.out.trans (g2.mono G1.out.size)); clear g2)
    | (go_at_call 6; refine (awake_any _).mono ?_; rintro e W3 ⟨rfl, g3⟩; have G3 := Lib.hid (G2.out.trans (g3.mono G2.out.size)); clear g3))
  go_ret
  exact ⟨rfl, HP.out.all G3.out⟩
set_option maxRecDepth 100000 in
set_option maxHeartbeats 1000000 in
theorem asks_long (a : Option Addr) (len cap : Nat) (hlen : 200 < len) (b p : Int) (n : Nat) (l ak : Int) (h : okP b p n l = true) (w : World) : Calls Try.prog 3 #[.agg (parA b p n l), .slice a len cap, .int .u64 ak] w fun e w' => e = .returned (.bool true) ∧ Below w.heap.size w w' := by
  have HP := Lib.hid (PX.new w b p n l)
  have HS : Hid ((Try.prog.info? 23).map (·.size) = some (parA b p n l).size) := by show _ = _; unfold parA; kernel_rfl
  have HN := Lib.hid (fun W => new_ok b p n l h W)
  have h200 : (200 : Int) < len := by omega
  clear h hlen
  go_enter Try.func3, Try.ntmps3
  go_upto_region 1 with (fail)
  generalize World.alloc w _ = W0 at HP ⊢
  generalize w.heap.size = x at HP ⊢
  go_upto_region 2 with (first
    | (refine wpList_load_row rfl 23 _ rfl x rfl 23 (parA b p n l) (0, 0) _ HP.out.row Try.underlying23 rfl HS.out ?_)
    | (go_at_call 5; refine (HN.out _).mono ?_; rintro e W1 ⟨B, G, rfl, k1, k2, k3, g1⟩; have G1 := Lib.hid g1; clear g1 k1 k2 k3))
  have HP1 := Lib.hid (HP.out.row.below G1.out HP.out.row.lt)
  go_wp2_with (first
    | (refine wpList_load_row rfl 23 _ rfl x rfl 23 (parA b p n l) (0, 0) _ HP1.out Try.underlying23 rfl HS.out ?_)
    | (go_at_call 5; refine (HN.out _).mono ?_; rintro e W2 ⟨B2, G2, rfl, k1, k2, k3, g2⟩; have GG := Lib.hid (G1.out.trans (g2.mono G1.out.size)); clear g2 k1 k2 k3)
    | (go_at_call 6; refine (awake_any _).mono ?_; rintro e W3 ⟨rfl, g3⟩; have G3 := Lib.hid (GG.out.trans (g3.mono GG.out.size)); clear g3))
  go_ret
  exact ⟨rfl, HP.out.all G3.out⟩
end Go.Proofs.Ytibmmonboeifhab
