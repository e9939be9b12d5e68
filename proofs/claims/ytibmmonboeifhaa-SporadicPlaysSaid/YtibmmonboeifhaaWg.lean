/- The reference's Run. -/
import Derived.Test.YtibmmonboeifhaaWf
namespace Go.Proofs.Ytibmmonboeifhaa
open Go.RowKit
set_option linter.unusedVariables false

theorem RS.ran0 {W : World} {lo B : Nat} {T b0 : Int} {s : AQ} (h : RS lo B T b0 s W) (now : Int) (h0 : 0 ≤ now) (h1 : now ≤ 1099511627776) (hb : s.bud ≠ 0) (ht : s.told = now) (hc : 0 < s.chk) (hr : now = s.ran + 1) :
    RS lo B T b0 (ranA now s) (((W.setCell ⟨B, 8, none⟩ (.int .i64 now)).setCell ⟨B, 10, none⟩ (.int .i64 now)).setCell ⟨B, 4, none⟩ (.int .i64 (s.bud - 1))) := by
  obtain ⟨q, hq, h⟩ := h
  have e1 : decide (0 < s.chk) = true := by simpa using hc
  have e2 : decide (0 < s.chk + 1) = true := by simp; omega
  have hrow := h.row
  rw [e1] at hrow
  obtain ⟨o1, o2⟩ := h.op hc
  refine ⟨{ q with la := now }, hq, ?_, own_fr2 h.own (((Fr.set (S := fun k => k = B) _ _ _ _ rfl).trans (Fr.set (S := fun k => k = B) _ _ _ _ rfl)).trans (Fr.set (S := fun k => k = B) _ _ _ _ rfl)) (fun k e e2 => h.ne (by rw [e, e2])), h.ne, h.lo, h.ai.ran now h0 h1 hb, fun _ => ⟨rfl, ?_⟩, ?_, h.c32⟩
  · show RowAt _ _ _ (rCells _ _ (decide (0 < s.chk + 1)))
    rw [e2]
    exact ((hrow.set 8 (.int .i64 now)).set 10 (.int .i64 now)).set 4 (.int .i64 (s.bud - 1))
  · show q.f = now - (s.chk + 1) + 1
    omega
  · show now ≤ s.told; omega
theorem RS.ran1 {W : World} {lo B : Nat} {T b0 : Int} {s : AQ} (h : RS lo B T b0 s W) (now : Int) (h0 : 0 ≤ now) (h1 : now ≤ 1099511627776) (hb : s.bud ≠ 0) (ht : s.told = now) (hc : ¬ 0 < s.chk) :
    RS lo B T b0 (ranA now s) (((((W.setCell ⟨B, 6, none⟩ (.bool true)).setCell ⟨B, 7, none⟩ (.int .i64 now)).setCell ⟨B, 8, none⟩ (.int .i64 now)).setCell ⟨B, 10, none⟩ (.int .i64 now)).setCell ⟨B, 4, none⟩ (.int .i64 (s.bud - 1))) := by
  obtain ⟨q, hq, h⟩ := h
  have hz : s.chk = 0 := by have := h.ai.chk0; omega
  have e2 : decide (0 < s.chk + 1) = true := by simp; omega
  refine ⟨{ q with la := now, f := now }, hq, ?_, own_fr2 h.own (((((Fr.set (S := fun k => k = B) _ _ _ _ rfl).trans (Fr.set (S := fun k => k = B) _ _ _ _ rfl)).trans (Fr.set (S := fun k => k = B) _ _ _ _ rfl)).trans (Fr.set (S := fun k => k = B) _ _ _ _ rfl)).trans (Fr.set (S := fun k => k = B) _ _ _ _ rfl)) (fun k e e2 => h.ne (by rw [e, e2])), h.ne, h.lo, h.ai.ran now h0 h1 hb, fun _ => ⟨rfl, ?_⟩, ?_, h.c32⟩
  · show RowAt _ _ _ (rCells _ _ (decide (0 < s.chk + 1)))
    rw [e2]
    exact ((((h.row.set 6 (.bool true)).set 7 (.int .i64 now)).set 8 (.int .i64 now)).set 10 (.int .i64 now)).set 4 (.int .i64 (s.bud - 1))
  · show now = now - (s.chk + 1) + 1
    omega
  · show now ≤ s.told; omega
theorem RS.cell7 {W : World} {lo B : Nat} {T b0 : Int} {s : AQ} (h : RS lo B T b0 s W) : ∃ f la, W.cell? ⟨B, 7, none⟩ = some (.int .i64 f) ∧ W.cell? ⟨B, 8, none⟩ = some (.int .i64 la) := by
  obtain ⟨q, hq, h⟩ := h
  exact ⟨_, _, h.row.cell 7, h.row.cell 8⟩

set_option maxRecDepth 100000 in
set_option maxHeartbeats 4000000 in
theorem rrun_any {W : World} {lo B : Nat} {T b0 : Int} {s : AQ} (h : RS lo B T b0 s W) (now : Int) : Calls Try.prog 66 #[.pointer (some ⟨B, 0, none⟩), .int .i64 now] W (VR lo B T b0 (.int .i64 (runV now s)) (runS now s) W) := by
  have HH := Lib.hid h
  obtain ⟨_, _, _, _, c9, c10, _, _, _, hrt, ai⟩ := h.cells
  have hV : ∀ z : Int, runEA s now = z → z ≠ 0 → runV now s = z ∧ runS now s = s := fun z hz h0 => by
    rw [runV, runS, if_pos (by rw [hz]; exact h0), if_pos (by rw [hz]; exact h0), hz]; exact ⟨rfl, rfl⟩
  by_cases h1 : now < 0
  · have ha : askA s now = 34 := by rw [askA, if_pos (.inl h1)]
    obtain ⟨e1, e2⟩ := hV 34 (by rw [runEA, ha]; rfl) (by decide)
    rw [e1, e2]
    clear e1 e2 h hV c9 c10 ai
    go_enter Try.func66, Try.ntmps66
    go_wp2
    go_ret
    exact ⟨rfl, HH.out, Fr.refl _ _⟩
  by_cases h2 : 1099511627776 < now
  · have ha : askA s now = 34 := by rw [askA, if_pos (.inr h2)]
    obtain ⟨e1, e2⟩ := hV 34 (by rw [runEA, ha]; rfl) (by decide)
    rw [e1, e2]
    clear e1 e2 h hV c9 c10 ai
    go_enter Try.func66, Try.ntmps66
    go_wp2
    go_ret
    exact ⟨rfl, HH.out, Fr.refl _ _⟩
  by_cases h3 : now < s.told
  · have ha : askA s now = 30 := by rw [askA, if_neg (by omega), if_pos h3]
    obtain ⟨e1, e2⟩ := hV 30 (by rw [runEA, ha]; rfl) (by decide)
    rw [e1, e2]
    clear e1 e2 h hV ai
    go_enter Try.func66, Try.ntmps66
    go_wp2
    go_ret
    exact ⟨rfl, HH.out, Fr.refl _ _⟩
  have hask : askA s now = 0 := by rw [askA, if_neg (by omega), if_neg h3]
  by_cases h4 : now = s.ran
  · obtain ⟨e1, e2⟩ := hV 30 (by rw [runEA, hask, if_neg (by simp), if_pos h4]) (by decide)
    rw [e1, e2]
    have h4' : (now == s.ran) = true := by simpa using h4
    clear e1 e2 h hV ai h4
    go_enter Try.func66, Try.ntmps66
    go_wp2
    go_ret
    exact ⟨rfl, HH.out, Fr.refl _ _⟩
  have h4' : (now == s.ran) = false := by simpa using h4
  have he : runEA s now = 0 := by rw [runEA, hask, if_neg (by simp), if_neg h4]
  have HV : Hid (runV now s = if (tellA now s).bud = 0 then 18 else 0) := by show _ = _; rw [runV, if_neg (by rw [he]; simp)]
  have HS : Hid (runS now s = if (tellA now s).bud = 0 then tellA now s else if (ranA now (tellA now s)).bud = 0 then endA (ranA now (tellA now s)) else ranA now (tellA now s)) := by show _ = _; rw [runS, if_neg (by rw [he]; simp)]
  have HT := Lib.hid (rtell_any h now (by omega))
  have HOP : Hid (0 < (tellA now s).chk → now = (tellA now s).ran + 1) := fun hc => by
    rw [tellA_chk] at hc
    rw [tellA_ran]
    split at hc
    · omega
    · rename_i hn
      have : ¬ s.ran + 1 < now := fun e => hn ⟨hc, e⟩
      omega
  have HTO : Hid ((tellA now s).told = now) := rfl
  generalize runV now s = v at HV ⊢
  generalize runS now s = s' at HS ⊢
  generalize tellA now s = s1 at HV HS HT HOP HTO
  clear h hV hask he h4 ai
  by_cases hb : s1.bud = 0
  · have hb' : (s1.bud == 0) = true := by simpa using hb
    rw [if_pos hb] at HV HS
    clear hb
    go_enter Try.func66, Try.ntmps66
    go_upto_region 8 with (go_at_call 89; refine HT.out.mono ?_; rintro e W1 ⟨⟨v1, rfl⟩, s2, g2⟩; have S2 := Lib.hid s2; have G2 := Lib.hid g2; clear s2 g2 HT HH c9 c10)
    obtain ⟨_, c4, _⟩ := S2.out.cells
    go_wp2
    go_ret
    exact ⟨by rw [HV.out] <;> rfl, by rw [HS.out]; exact S2.out, G2.out⟩
  · have hb' : (s1.bud == 0) = false := by simpa using hb
    rw [if_neg hb] at HV HS
    have HBB := Lib.hid hb
    clear hb
    go_enter Try.func66, Try.ntmps66
    go_upto_region 8 with (go_at_call 89; refine HT.out.mono ?_; rintro e W1 ⟨⟨v1, rfl⟩, s2, g2⟩; have S2 := Lib.hid s2; have G2 := Lib.hid g2; clear s2 g2 HT HH c9 c10)
    obtain ⟨_, c4, c6, _, _, c10, ff, _, hlo, _, ai⟩ := S2.out.cells
    obtain ⟨f7, la, c7, c8⟩ := S2.out.cell7
    have g4 := ff 4
    have g6 := ff 6
    have g7 := ff 7
    have g8 := ff 8
    have g10 := ff 10
    have b0' : 1 ≤ s1.bud := by have := ai.bud0; have := HBB.out; omega
    have b1 : s1.bud ≤ 1000000 := by have := ai.sum; have := sumL_nonneg ai.amt; have := ai.chk0; have := ai.tot; omega
    have HLO : Hid (lo ≤ B) := hlo
    clear ff ai hlo
    by_cases hc : 0 < s1.chk
    · have hd : decide (0 < s1.chk) = true := by simpa using hc
      rw [hd] at c6
      have HR3 := Lib.hid (S2.out.ran0 now (by omega) (by omega) HBB.out HTO.out hc (HOP.out hc))
      have HC := Lib.hid hc
      clear hd hc
      go_upto_region 14 with (fail)
      have HG3 : Hid (Fr (fun k => lo ≤ k) W (((W1.setCell ⟨B, 8, none⟩ (.int .i64 now)).setCell ⟨B, 10, none⟩ (.int .i64 now)).setCell ⟨B, 4, none⟩ (.int .i64 (s1.bud - 1)))) := G2.out.trans (((Fr.set _ _ _ _ HLO.out).trans (Fr.set _ _ _ _ HLO.out)).trans (Fr.set _ _ _ _ HLO.out))
      clear c4 c6 c7 c8 c10 g4 g6 g7 g8 g10
      generalize World.setCell (World.setCell (World.setCell W1 _ _) _ _) _ _ = W2 at HR3 HG3 ⊢
      obtain ⟨_, c4, _⟩ := HR3.out.cells
      by_cases hz : (ranA now s1).bud = 0
      · rw [if_pos hz] at HS
        have hz' : ((ranA now s1).bud == 0) = true := by simpa using hz
        have HE := Lib.hid (rend_any HR3.out (show 0 < s1.chk + 1 by have := HC.out; omega))
        clear hz
        generalize (ranA now s1).bud = z at c4 hz'
        go_wp2_with (go_at_call 90; refine HE.out.mono ?_; rintro e W3 ⟨⟨v3, rfl⟩, s3, g3⟩; have S3 := Lib.hid s3; have G3 := Lib.hid (HG3.out.trans g3); clear s3 g3)
        go_ret
        exact ⟨by rw [HV.out] <;> rfl, by rw [HS.out]; exact S3.out, G3.out⟩
      · rw [if_neg hz] at HS
        have hz' : ((ranA now s1).bud == 0) = false := by simpa using hz
        clear hz
        generalize (ranA now s1).bud = z at c4 hz'
        go_wp2
        go_ret
        exact ⟨by rw [HV.out] <;> rfl, by rw [HS.out]; exact HR3.out, HG3.out⟩
    · have hd : decide (0 < s1.chk) = false := by simpa using hc
      rw [hd] at c6
      have HR3 := Lib.hid (S2.out.ran1 now (by omega) (by omega) HBB.out HTO.out hc)
      have HC : Hid (0 ≤ s1.chk) := S2.out.choose_spec.2.ai.chk0
      clear hd hc
      go_upto_region 14 with (fail)
      have HG3 : Hid (Fr (fun k => lo ≤ k) W (((((W1.setCell ⟨B, 6, none⟩ (.bool true)).setCell ⟨B, 7, none⟩ (.int .i64 now)).setCell ⟨B, 8, none⟩ (.int .i64 now)).setCell ⟨B, 10, none⟩ (.int .i64 now)).setCell ⟨B, 4, none⟩ (.int .i64 (s1.bud - 1)))) := G2.out.trans (((((Fr.set _ _ _ _ HLO.out).trans (Fr.set _ _ _ _ HLO.out)).trans (Fr.set _ _ _ _ HLO.out)).trans (Fr.set _ _ _ _ HLO.out)).trans (Fr.set _ _ _ _ HLO.out))
      clear c4 c6 c7 c8 c10 g4 g6 g7 g8 g10
      generalize World.setCell (World.setCell (World.setCell (World.setCell (World.setCell W1 _ _) _ _) _ _) _ _) _ _ = W2 at HR3 HG3 ⊢
      obtain ⟨_, c4, _⟩ := HR3.out.cells
      by_cases hz : (ranA now s1).bud = 0
      · rw [if_pos hz] at HS
        have hz' : ((ranA now s1).bud == 0) = true := by simpa using hz
        have HE := Lib.hid (rend_any HR3.out (show 0 < s1.chk + 1 by have := HC.out; omega))
        clear hz
        generalize (ranA now s1).bud = z at c4 hz'
        go_wp2_with (go_at_call 90; refine HE.out.mono ?_; rintro e W3 ⟨⟨v3, rfl⟩, s3, g3⟩; have S3 := Lib.hid s3; have G3 := Lib.hid (HG3.out.trans g3); clear s3 g3)
        go_ret
        exact ⟨by rw [HV.out] <;> rfl, by rw [HS.out]; exact S3.out, G3.out⟩
      · rw [if_neg hz] at HS
        have hz' : ((ranA now s1).bud == 0) = false := by simpa using hz
        clear hz
        generalize (ranA now s1).bud = z at c4 hz'
        go_wp2
        go_ret
        exact ⟨by rw [HV.out] <;> rfl, by rw [HS.out]; exact HR3.out, HG3.out⟩
end Go.Proofs.Ytibmmonboeifhaa
