/- SporadicPlays: parameters that aren't valid. -/
import Derived.Test.YtibmmonboeifhaaWm
namespace Go.Proofs.Ytibmmonboeifhaa
open Go.RowKit Go.Sort
set_option linter.unusedVariables false

theorem par_range {W : World} {x : Nat} {b p n l : Int} (h : RowAt W x 45 (parA b p n l)) : W.rangeAt x 0 [.int .i64 b, .int .i64 p, .int .i64 n, .int .i64 l] := fun j v hv => by
  rw [Nat.zero_add]
  match j, hv with
  | 0, hv => cases hv; exact h.cell 0
  | 1, hv => cases hv; exact h.cell 1
  | 2, hv => cases hv; exact h.cell 2
  | 3, hv => cases hv; exact h.cell 3

set_option maxRecDepth 100000 in
set_option maxHeartbeats 4000000 in
theorem plays_bad (a : Option Addr) (cap : Nat) (A : List ActS) (hlen : A.length ≤ 60) (b p n l : Int) (h : okP b p n l ≠ true) (w : World) (hA : ActsS w a A) : Calls Try.prog 6 #[.agg (parA b p n l), .slice a A.length cap] w fun e w' => e = .returned (.bool true) ∧ Below w.heap.size w w' := by
  have HP := Lib.hid (PX.new w b p n l)
  have HS : Hid ((Try.prog.info? 45).map (·.size) = some (parA b p n l).size) := by show _ = _; unfold parA; kernel_rfl
  have HSA : Hid ((Try.prog.info? 58).map (·.size) = some 4) := by show _ = _; kernel_rfl
  have HSP : Hid ((Try.prog.info? 45).map (·.size) = some 4) := by show _ = _; kernel_rfl
  have HN : Hid (∀ W, Calls Try.prog 24 #[.agg (parA b p n l)] W fun e w' => e = .returned (.tuple #[.pointer none, .int .i64 34]) ∧ Below W.heap.size W w') := fun W => new_bad b p n l h W
  have HRN : Hid (∀ W, Calls Try.prog 25 #[.agg (parA b p n l)] W fun e w' => e = .returned (.tuple #[.pointer none, .int .i64 34]) ∧ Below W.heap.size W w') := fun W => rnew_bad b p n l h W
  have HRW : Hid (∀ W0 W x, PX w W0 x b p n l → Below W0.heap.size W0 W → RowAt W x 45 (parA b p n l)) := fun W0 W x h hb => h.row.below hb h.row.lt
  have HC1 := Lib.hid (check_any b p n l)
  have HC2 := Lib.hid (rcheck_any b p n l)
  generalize chkP b p n l = ck at HC1 HC2
  have h60 : ¬ (60 : Int) < A.length := by omega
  have HA := Lib.hid hA
  have HLEN := Lib.hid hlen
  clear hlen h hA
  go_enter Try.func6, Try.ntmps6
  go_upto_region 1 with (fail)
  generalize World.alloc w _ = W0 at HP ⊢
  generalize w.heap.size = x at HP ⊢
  go_upto_region 5 with (first
    | (refine wpList_load_row rfl 45 _ rfl x rfl 45 (parA b p n l) (0, 0) _ (HRW.out _ _ _ HP.out G1.out) Try.underlying45 rfl HS.out ?_)
    | (refine wpList_load_row rfl 45 _ rfl x rfl 45 (parA b p n l) (0, 0) _ HP.out.row Try.underlying45 rfl HS.out ?_)
    | (go_at_call 24; refine (HN.out _).mono ?_; rintro e W1 ⟨rfl, g1⟩; have G1 := Lib.hid g1; clear g1)
    | (go_at_call 26; refine (from_any _ _ _ _ _).mono ?_; rintro e W2 ⟨rfl, g2⟩; have G2 := Lib.hid (G1.out.trans (g2.mono G1.out.size)); clear g2)
    | (go_at_call 25; refine (HRN.out _).mono ?_; rintro e W3 ⟨rfl, g3⟩; have G3 := Lib.hid (G2.out.trans (g3.mono G2.out.size)); clear g3))
  have HRG : Hid (∀ v, (∃ p : Regrown, v = Sort.grow (redrawn W3 p.d) p.os) → v.rangeAt x 0 [.int .i64 b, .int .i64 p, .int .i64 n, .int .i64 l]) := fun v ⟨q, hq⟩ j y hy => by
    rw [hq]; exact cell_regrown (par_range (HRW.out _ _ _ HP.out G3.out) j y hy) _ _
  refine wp_region_quiet_below (by kernel_rfl) (by kernel_rfl) ?_
  repeat (first
    | (refine BigFrame.wpQuiet_want rfl (fun K hK => ?_)
       refine quiet_mid 45 _ rfl x 0 rfl [.int .i64 b, .int .i64 p, .int .i64 n, .int .i64 l] _ HRG.out Try.underlying45 rfl HSP.out ?_
       refine hK _ ?_
       clear hK K)
    | go_big_quiet_skip
    | quiet_step (first
      | (go_at_call 28; exact Calls.regrown_of (HC1.out _))
      | (go_at_call 29; exact Calls.regrown_of (HC2.out _))
      | (go_at_call 26; exact Calls.regrown_of (from_any _ _ _ _ _))))
  refine wpQuiet_nil ?_
  intro _ hw'
  obtain ⟨⟨dq, osq⟩, hw''⟩ := hw'
  subst hw''
  have HB : Hid (Below W0.heap.size W0 (Sort.grow (redrawn W3 dq) osq)) := G3.out.trans ((below_regrown W3 dq osq).mono G3.out.size)
  generalize Sort.grow (redrawn W3 dq) osq = W4 at HB ⊢
  clear HN HRN HRW HC1 HC2 HRG G1 G2 G3
  go_wp2
  go_loopw [9, 10, 11, 12, 13, 14, 15] (fun v9 v10 v11 v12 v13 v14 v15 wr => ∃ (i : Nat) (now : Int), v10 = .int .i64 i ∧ v9 = .int .i64 now ∧ Hid (i ≤ A.length ∧ 0 ≤ now ∧ now ≤ 256 * i ∧ Below W0.heap.size W0 wr)) (fun v9 v10 v11 v12 v13 v14 v15 _ => A.length - (intOf v10).toNat)
  case atStart => exact ⟨0, 0, rfl, rfl, Nat.zero_le _, Int.le_refl _, Int.le_refl _, HB.out⟩
  case round =>
    obtain ⟨i, now, rfl, rfl, HR⟩ := hrel
    by_cases hi : i < A.length
    · have i1 : (0 : Int) ≤ i := by omega
      have i2 : (i : Int) < A.length := by omega
      have i3 : (i : Int) < 60 := by have := HLEN.out; omega
      have n0 : 0 ≤ now := HR.out.2.1
      have n1 : now ≤ 20000 := by have := HR.out.2.2.1; omega
      have HI := Lib.hid hi
      obtain ⟨bb, off, y, rfl, hy, ⟨y0, y1⟩, y2, y3⟩ := HA.out.get hi
      have HY := Lib.hid hy
      have r0 := HY.out _ (HP.out.all HR.out.2.2.2)
      have c0 : wr.cell? ⟨bb, off + i * 4, none⟩ = some (.int .u8 y.d) := r0 0 _ rfl
      have c1 : wr.cell? ⟨bb, off + i * 4 + 1, none⟩ = some (.int .u8 y.gp) := r0 1 _ rfl
      have c2 : wr.cell? ⟨bb, off + i * 4 + 2, none⟩ = some (.int .i64 y.raw) := r0 2 _ rfl
      have HRR := Lib.hid r0
      clear hi hy r0
      have HST : Hid (∀ W t, Calls Try.prog 30 #[.pointer none, .pointer none, .agg (actL y).toArray, .int .i64 t] W fun e w' => e = .returned (.bool true) ∧ Below W.heap.size W w') := fun W t => step_nil y.d y.gp y.raw y.nm t y0 y1
      by_cases hd : y.d < 252
      · go_upto_region 15 with (fail)
        clear c0 c1 c2
        go_wp2_with (first
          | (refine wpList_load_mid rfl 58 _ rfl bb (off + i * 4) rfl (actL y) _ HRR.out Try.underlying58 rfl HSA.out ?_)
          | (go_at_call 30; refine (HST.out _ _).mono ?_; rintro e W5 ⟨rfl, g5⟩; have G5 := Lib.hid g5; clear g5)
          | (go_at_call 32; refine (repl_nil _).mono ?_; rintro e W6 ⟨rfl, rfl⟩)
          | (go_at_call 33; refine (rrepl_nil _).mono ?_; rintro e W6 ⟨rfl, rfl⟩)
          | (go_at_call 31; refine (same_nil _).mono ?_; rintro e W6 ⟨rfl, rfl⟩)
          | (go_at_call 34; refine (next_nil _).mono ?_; rintro e W6 ⟨rfl, rfl⟩)
          | (go_at_call 35; refine (rnext_nil _).mono ?_; rintro e W6 ⟨rfl, rfl⟩))
        go_roundw
        case rel => exact ⟨i + 1, now + y.gp, rfl, rfl, HI.out, by omega, by have := HR.out.2.2.1; omega, HR.out.2.2.2.trans (G5.out.mono HR.out.2.2.2.size)⟩
        case measure =>
          have := HI.out
          show A.length - (intOf (Value.int .i64 ((i : Int) + 1))).toNat < A.length - (intOf (Value.int .i64 (i : Int))).toNat
          simp only [intOf]
          omega
      · go_upto_region 15 with (fail)
        clear c0 c1 c2
        go_wp2_with (first
          | (refine wpList_load_mid rfl 58 _ rfl bb (off + i * 4) rfl (actL y) _ HRR.out Try.underlying58 rfl HSA.out ?_)
          | (go_at_call 30; refine (HST.out _ _).mono ?_; rintro e W5 ⟨rfl, g5⟩; have G5 := Lib.hid g5; clear g5)
          | (go_at_call 32; refine (repl_nil _).mono ?_; rintro e W6 ⟨rfl, rfl⟩)
          | (go_at_call 33; refine (rrepl_nil _).mono ?_; rintro e W6 ⟨rfl, rfl⟩)
          | (go_at_call 31; refine (same_nil _).mono ?_; rintro e W6 ⟨rfl, rfl⟩)
          | (go_at_call 34; refine (next_nil _).mono ?_; rintro e W6 ⟨rfl, rfl⟩)
          | (go_at_call 35; refine (rnext_nil _).mono ?_; rintro e W6 ⟨rfl, rfl⟩))
        go_roundw
        case rel => exact ⟨i + 1, now, rfl, rfl, HI.out, n0, by have := HR.out.2.2.1; omega, HR.out.2.2.2.trans (G5.out.mono HR.out.2.2.2.size)⟩
        case measure =>
          have := HI.out
          show A.length - (intOf (Value.int .i64 ((i : Int) + 1))).toNat < A.length - (intOf (Value.int .i64 (i : Int))).toNat
          simp only [intOf]
          omega
    · have hlt : ¬ (i : Int) < A.length := by omega
      clear hi
      go_wp2_with (go_at_call 27; refine (awake_any _).mono ?_; rintro e W5 ⟨rfl, g5⟩; have G5 := Lib.hid (HR.out.2.2.2.trans (g5.mono HR.out.2.2.2.size)); clear g5)
      go_ret
      exact ⟨rfl, HP.out.all G5.out⟩
end Go.Proofs.Ytibmmonboeifhaa
