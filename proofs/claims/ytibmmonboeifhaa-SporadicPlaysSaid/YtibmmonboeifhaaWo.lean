/- SporadicPlays: the walk. -/
import Derived.Test.YtibmmonboeifhaaWn
namespace Go.Proofs.Ytibmmonboeifhaa
open Go.RowKit Go.Sort
set_option linter.unusedVariables false

theorem RS.l32 {W : World} {lo B : Nat} {T b0 : Int} {s : AQ} (h : RS lo B T b0 s W) : s.l.length ≤ 32 := by
  obtain ⟨q, hq, h⟩ := h
  exact Nat.le_trans h.ai.len h.c32
/-- What holds at the head of a round. -/
def PlI (W0 : World) (B G lo R : Nat) (T : Int) (s : AQ) (W : World) : Prop := Two B G lo R T s W ∧ Below W0.heap.size W0 W ∧ W0.heap.size ≤ B ∧ W0.heap.size ≤ G ∧ W0.heap.size ≤ lo
theorem PlI.move {W0 W W' : World} {B G lo R : Nat} {T : Int} {s s' : AQ} (h : PlI W0 B G lo R T s W) (k : Two B G lo R T s' W') (hf : Fr (fun k => k = B ∨ k = G ∨ lo ≤ k) W W') : PlI W0 B G lo R T s' W' :=
  ⟨k, Fr.below h.2.1 hf h.2.1.size (fun i e => by have := h.2.2; rcases e with e | e | e <;> omega), h.2.2⟩
theorem PlI.rest {W0 W W' : World} {B G lo R : Nat} {T : Int} {s : AQ} (h : PlI W0 B G lo R T s W) (hf : Fr (fun _ => False) W W') : PlI W0 B G lo R T s W' :=
  h.move (h.1.rest hf) (hf.mono (fun _ _ e => e.elim))
theorem PlI.step {W0 W : World} {B G lo R : Nat} {T : Int} {s : AQ} (h : PlI W0 B G lo R T s W) (y : ActS) (t : Int) (h0 : 0 ≤ y.d) (h1 : y.d < 256) : Calls Try.prog 30 #[.pointer (some ⟨B, 0, none⟩), .pointer (some ⟨R, 0, none⟩), .agg (actL y).toArray, .int .i64 t] W fun e w' => e = .returned (.bool true) ∧ ∃ s', PlI W0 B G lo R T s' w' :=
  Calls.mono (step_any h.1 y.d y.gp y.raw y.nm t h0 h1) fun e w' ⟨he, s', k, hf⟩ => ⟨he, s', h.move k hf⟩
theorem PlI.repl {W0 W : World} {B G lo R : Nat} {T : Int} {s : AQ} (h : PlI W0 B G lo R T s W) : Calls Try.prog 32 #[.pointer (some ⟨B, 0, none⟩)] W fun e w' => ∃ g, e = .returned (.slice (some ⟨g, 0, none⟩) s.l.length s.l.length) ∧ PlI W0 B G lo R T s w' ∧ LiN w' g s.l :=
  (repl_any h.1.a).mono fun e w' ⟨g, he, _, hl, _, hb⟩ => ⟨g, he, h.rest (fr_of_below hb), hl⟩
theorem PlI.rrepl {W0 W : World} {B G lo R g : Nat} {T : Int} {s : AQ} (h : PlI W0 B G lo R T s W) (hl : LiN W g s.l) : Calls Try.prog 33 #[.pointer (some ⟨R, 0, none⟩)] W fun e w' => ∃ v, e = .returned v ∧ PlI W0 B G lo R T s w' ∧ Calls Try.prog 31 #[.slice (some ⟨g, 0, none⟩) s.l.length s.l.length, v] w' fun e w'' => e = .returned (.bool true) ∧ PlI W0 B G lo R T s w'' :=
  (rrepl_any h.1.b).mono fun e w' ⟨v, he, ho, hf⟩ => ⟨v, he, h.rest hf, (same_any (hl.fr hf) ho h.1.b.l32).mono fun e w'' ⟨he, hf2⟩ => ⟨he, (h.rest hf).rest hf2⟩⟩
theorem PlI.next {W0 W : World} {B G lo R : Nat} {T : Int} {s : AQ} (h : PlI W0 B G lo R T s W) : Calls Try.prog 34 #[.pointer (some ⟨B, 0, none⟩)] W fun e w' => e = .returned (.tuple #[.int .i64 (nextV s).1, .bool (nextV s).2]) ∧ PlI W0 B G lo R T s w' :=
  (next_any h.1.a).mono fun e w' ⟨he, hs, hf⟩ => ⟨he, h.move ⟨hs, h.1.ref hf, h.1.lb, h.1.lg⟩ (hf.mono (fun k _ e => e.elim .inl (fun e => .inr (.inl e))))⟩
theorem PlI.rnext {W0 W : World} {B G lo R : Nat} {T : Int} {s : AQ} (h : PlI W0 B G lo R T s W) : Calls Try.prog 35 #[.pointer (some ⟨R, 0, none⟩)] W fun e w' => e = .returned (.tuple #[.int .i64 (nextV s).1, .bool (nextV s).2]) ∧ PlI W0 B G lo R T s w' :=
  (rnext_any h.1.b).mono fun e w' ⟨he, hs, hf⟩ => ⟨he, h.move ⟨h.1.a.keep hf (fun e => by have := h.1.lb; omega) (fun e => by have := h.1.lg; omega), hs, h.1.lb, h.1.lg⟩ (hf.mono (fun k _ e => .inr (.inr e)))⟩

set_option maxRecDepth 100000 in
set_option maxHeartbeats 4000000 in
theorem plays_walk (a : Option Addr) (cap : Nat) (A : List ActS) (hlen : A.length ≤ 60) (b p : Int) (n : Nat) (l : Int) (h : okP b p n l = true) (w : World) (hA : ActsS w a A) : Calls Try.prog 6 #[.agg (parA b p n l), .slice a A.length cap] w fun e w' => e = .returned (.bool true) ∧ Below w.heap.size w w' := by
  have HP := Lib.hid (PX.new w b p n l)
  have HS : Hid ((Try.prog.info? 45).map (·.size) = some (parA b p n l).size) := by show _ = _; unfold parA; kernel_rfl
  have HSA : Hid ((Try.prog.info? 58).map (·.size) = some 4) := by show _ = _; kernel_rfl
  have HSP : Hid ((Try.prog.info? 45).map (·.size) = some 4) := by show _ = _; kernel_rfl
  have HN := Lib.hid (fun W => new_ls b p n l h (w := W) (Below.refl _ W))
  have HRN := Lib.hid (fun W => rnew_ok b p n l h W)
  have HRW : Hid (∀ W0 W x, PX w W0 x b p n l → Below W0.heap.size W0 W → RowAt W x 45 (parA b p n l)) := fun W0 W x h hb => h.row.below hb h.row.lt
  have HC1 := Lib.hid (check_any b p n l)
  have HC2 := Lib.hid (rcheck_any b p n l)
  generalize chkP b p n l = ck at HC1 HC2
  have h60 : ¬ (60 : Int) < A.length := by omega
  have HA := Lib.hid hA
  have HLEN := Lib.hid hlen
  clear hlen h hA
  go_enter Try.func6, Try.ntmps6
  go_upto_region 1 with (fail)
  generalize World.alloc w _ = W0 at HP ⊢
  generalize w.heap.size = x at HP ⊢
  go_upto_region 5 with (first
    | (refine wpList_load_row rfl 45 _ rfl x rfl 45 (parA b p n l) (0, 0) _ (HRW.out _ _ _ HP.out S1.out.bel) Try.underlying45 rfl HS.out ?_)
    | (refine wpList_load_row rfl 45 _ rfl x rfl 45 (parA b p n l) (0, 0) _ HP.out.row Try.underlying45 rfl HS.out ?_)
    | (go_at_call 24; refine (HN.out _).mono ?_; rintro e W1 ⟨B, G, rfl, s1⟩; have S1 := Lib.hid s1; clear s1)
    | (go_at_call 26; refine (from_any _ _ _ _ _).mono ?_; rintro e W2 ⟨rfl, g2⟩; have G2 := Lib.hid g2; clear g2)
    | (go_at_call 25; refine (HRN.out _).mono ?_; rintro e W3 ⟨R, rfl, r3, g3⟩; have R3 := Lib.hid r3; have K3 := Lib.hid g3; clear r3 g3))
  have G3 : Hid (Below W0.heap.size W0 W3) := S1.out.bel.trans ((G2.out.mono S1.out.bel.size).trans (K3.out.mono (Nat.le_trans S1.out.bel.size G2.out.size)))
  have HT3 : Hid (PlI W0 B G W2.heap.size R b (newA b p n l) W3) := by
    have l1 := S1.out.ss.lt
    have l2 := G2.out.size
    have l3 := S1.out.bel.size
    exact ⟨⟨(S1.out.ss.keep (fr_of_below G2.out) id id).keep (fr_of_below K3.out) id id, R3.out, by omega, by omega⟩, G3.out, S1.out.b, S1.out.g, by omega⟩
  generalize W2.heap.size = lo at HT3
  generalize newA b p n l = s0 at HT3
  have HRG : Hid (∀ v, (∃ p : Regrown, v = Sort.grow (redrawn W3 p.d) p.os) → v.rangeAt x 0 [.int .i64 b, .int .i64 p, .int .i64 n, .int .i64 l]) := fun v ⟨q, hq⟩ j y hy => by
    rw [hq]; exact cell_regrown (par_range (HRW.out _ _ _ HP.out G3.out) j y hy) _ _
  refine wp_region_quiet_below (by kernel_rfl) (by kernel_rfl) ?_
  repeat (first
    | (refine BigFrame.wpQuiet_want rfl (fun K hK => ?_)
       refine quiet_mid 45 _ rfl x 0 rfl [.int .i64 b, .int .i64 p, .int .i64 n, .int .i64 l] _ HRG.out Try.underlying45 rfl HSP.out ?_
       refine hK _ ?_
       clear hK K)
    | go_big_quiet_skip
    | quiet_step (first
      | (go_at_call 28; exact Calls.regrown_of (HC1.out _))
      | (go_at_call 29; exact Calls.regrown_of (HC2.out _))
      | (go_at_call 26; exact Calls.regrown_of (from_any _ _ _ _ _))))
  refine wpQuiet_nil ?_
  intro _ hw'
  obtain ⟨⟨dq, osq⟩, hw''⟩ := hw'
  subst hw''
  have HB : Hid (PlI W0 B G lo R b s0 (Sort.grow (redrawn W3 dq) osq)) := HT3.out.rest (fr_of_below (below_regrown W3 dq osq))
  generalize Sort.grow (redrawn W3 dq) osq = W4 at HB ⊢
  clear HN HRN HRW HC1 HC2 HRG S1 G2 K3 R3 G3 HT3
  go_wp2
  go_loopw [9, 10, 11, 12, 13, 14, 15] (fun v9 v10 v11 v12 v13 v14 v15 wr => ∃ (i : Nat) (now : Int) (s : AQ), v10 = .int .i64 i ∧ v9 = .int .i64 now ∧ Hid (i ≤ A.length ∧ 0 ≤ now ∧ now ≤ 256 * i ∧ PlI W0 B G lo R b s wr)) (fun v9 v10 v11 v12 v13 v14 v15 _ => A.length - (intOf v10).toNat)
  case atStart => exact ⟨0, 0, s0, rfl, rfl, Nat.zero_le _, Int.le_refl _, Int.le_refl _, HB.out⟩
  case round =>
    obtain ⟨i, now, s, rfl, rfl, HR⟩ := hrel
    by_cases hi : i < A.length
    · have i1 : (0 : Int) ≤ i := by omega
      have i2 : (i : Int) < A.length := by omega
      have i3 : (i : Int) < 60 := by have := HLEN.out; omega
      have n0 : 0 ≤ now := HR.out.2.1
      have n1 : now ≤ 20000 := by have := HR.out.2.2.1; omega
      have HI := Lib.hid hi
      obtain ⟨bb, off, y, rfl, hy, ⟨y0, y1⟩, y2, y3⟩ := HA.out.get hi
      have HY := Lib.hid hy
      have r0 := HY.out _ (HP.out.all HR.out.2.2.2.2.1)
      have c0 : wr.cell? ⟨bb, off + i * 4, none⟩ = some (.int .u8 y.d) := r0 0 _ rfl
      have c1 : wr.cell? ⟨bb, off + i * 4 + 1, none⟩ = some (.int .u8 y.gp) := r0 1 _ rfl
      have c2 : wr.cell? ⟨bb, off + i * 4 + 2, none⟩ = some (.int .i64 y.raw) := r0 2 _ rfl
      have HRR := Lib.hid r0
      clear hi hy r0
      have HST : Hid (∀ t, Calls Try.prog 30 #[.pointer (some ⟨B, 0, none⟩), .pointer (some ⟨R, 0, none⟩), .agg (actL y).toArray, .int .i64 t] wr fun e w' => e = .returned (.bool true) ∧ ∃ s', PlI W0 B G lo R b s' w') := fun t => HR.out.2.2.2.step y t y0 y1
      by_cases hd : y.d < 252
      · go_upto_region 15 with (fail)
        clear c0 c1 c2
        go_wp2_with (first
          | (refine wpList_load_mid rfl 58 _ rfl bb (off + i * 4) rfl (actL y) _ HRR.out Try.underlying58 rfl HSA.out ?_)
          | (go_at_call 30; refine (HST.out _).mono ?_; rintro e W5 ⟨rfl, s5, g5⟩; have G5 := Lib.hid g5; have hs1 : ((nextV s5).1 != (nextV s5).1) = false := (by simp); have hs2 : ((nextV s5).2 != (nextV s5).2) = false := (by simp); clear g5)
          | (go_at_call 32; refine G5.out.repl.mono ?_; rintro e W6 ⟨g, rfl, g6, l6⟩; have G6 := Lib.hid g6; have L6 := Lib.hid l6; clear g6 l6)
          | (go_at_call 33; refine (G6.out.rrepl L6.out).mono ?_; rintro e W7 ⟨v7, rfl, g7, k7⟩; have G7 := Lib.hid g7; have K7 := Lib.hid k7; clear g7 k7)
          | (go_at_call 31; refine K7.out.mono ?_; rintro e W8 ⟨rfl, g8⟩; have G8 := Lib.hid g8; clear g8)
          | (go_at_call 34; refine G8.out.next.mono ?_; rintro e W9 ⟨rfl, g9⟩; have G9 := Lib.hid g9; clear g9)
          | (go_at_call 35; refine G9.out.rnext.mono ?_; rintro e W10 ⟨rfl, g10⟩; have G10 := Lib.hid g10; clear g10))
        go_roundw
        case rel => exact ⟨i + 1, now + y.gp, s5, rfl, rfl, HI.out, by omega, by have := HR.out.2.2.1; omega, G10.out⟩
        case measure =>
          have := HI.out
          show A.length - (intOf (Value.int .i64 ((i : Int) + 1))).toNat < A.length - (intOf (Value.int .i64 (i : Int))).toNat
          simp only [intOf]
          omega
      · go_upto_region 15 with (fail)
        clear c0 c1 c2
        go_wp2_with (first
          | (refine wpList_load_mid rfl 58 _ rfl bb (off + i * 4) rfl (actL y) _ HRR.out Try.underlying58 rfl HSA.out ?_)
          | (go_at_call 30; refine (HST.out _).mono ?_; rintro e W5 ⟨rfl, s5, g5⟩; have G5 := Lib.hid g5; have hs1 : ((nextV s5).1 != (nextV s5).1) = false := (by simp); have hs2 : ((nextV s5).2 != (nextV s5).2) = false := (by simp); clear g5)
          | (go_at_call 32; refine G5.out.repl.mono ?_; rintro e W6 ⟨g, rfl, g6, l6⟩; have G6 := Lib.hid g6; have L6 := Lib.hid l6; clear g6 l6)
          | (go_at_call 33; refine (G6.out.rrepl L6.out).mono ?_; rintro e W7 ⟨v7, rfl, g7, k7⟩; have G7 := Lib.hid g7; have K7 := Lib.hid k7; clear g7 k7)
          | (go_at_call 31; refine K7.out.mono ?_; rintro e W8 ⟨rfl, g8⟩; have G8 := Lib.hid g8; clear g8)
          | (go_at_call 34; refine G8.out.next.mono ?_; rintro e W9 ⟨rfl, g9⟩; have G9 := Lib.hid g9; clear g9)
          | (go_at_call 35; refine G9.out.rnext.mono ?_; rintro e W10 ⟨rfl, g10⟩; have G10 := Lib.hid g10; clear g10))
        go_roundw
        case rel => exact ⟨i + 1, now, s5, rfl, rfl, HI.out, n0, by have := HR.out.2.2.1; omega, G10.out⟩
        case measure =>
          have := HI.out
          show A.length - (intOf (Value.int .i64 ((i : Int) + 1))).toNat < A.length - (intOf (Value.int .i64 (i : Int))).toNat
          simp only [intOf]
          omega
    · have hlt : ¬ (i : Int) < A.length := by omega
      clear hi
      go_wp2_with (go_at_call 27; refine (awake_any _).mono ?_; rintro e W5 ⟨rfl, g5⟩; have G5 := Lib.hid (HR.out.2.2.2.2.1.trans (g5.mono HR.out.2.2.2.2.1.size)); clear g5)
      go_ret
      exact ⟨rfl, HP.out.all G5.out⟩
end Go.Proofs.Ytibmmonboeifhaa
