/- The contracts of Run, Budget, Priority, Next, Replenishments. -/
import Derived.Test.YtibmmonboeifhaaUf
namespace Go.Proofs.Ytibmmonboeifhaa
open Go.RowKit
set_option linter.unusedVariables false

def askA (s : AQ) (now : Int) : Int := if now < 0 ∨ 1099511627776 < now then 34 else if now < s.told then 30 else 0
def runEA (s : AQ) (now : Int) : Int := if askA s now ≠ 0 then askA s now else if now = s.ran then 30 else 0
/-- Run's result, and what it leaves. -/
def ranA (now : Int) (s : AQ) : AQ := { s with bud := s.bud - 1, chk := s.chk + 1, ran := now }
def runS (now : Int) (s : AQ) : AQ :=
  if runEA s now ≠ 0 then s else if (tellA now s).bud = 0 then tellA now s else if (ranA now (tellA now s)).bud = 0 then endA (ranA now (tellA now s)) else ranA now (tellA now s)
def runV (now : Int) (s : AQ) : Int := if runEA s now ≠ 0 then runEA s now else if (tellA now s).bud = 0 then 18 else 0
def budS (now : Int) (s : AQ) : AQ := if askA s now ≠ 0 then s else tellA now s
def budV (now : Int) (s : AQ) : Int × Int := if askA s now ≠ 0 then (0, askA s now) else ((tellA now s).bud, 0)
def priS (now p : Int) (s : AQ) : AQ := if isPri p = true then budS now s else s
def priV (now p : Int) (s : AQ) : Int × Int := if isPri p = true then (if (budV now s).2 ≠ 0 then (0, (budV now s).2) else if (budV now s).1 = 0 then (if p < s.low then p else s.low, 0) else (p, 0)) else (0, 34)
/-- Answers v, and leaves s. -/
def VS (B G : Nat) (T : Int) (v : Value) (s : AQ) (W : World) (e : Ending) (w' : World) : Prop := e = .returned v ∧ SS B G T s w' ∧ Fr (fun k => k = B ∨ k = G) W w'
theorem SS.calls {W : World} {B G : Nat} {T : Int} {s : AQ} (h : SS B G T s W) :
    Calls Try.prog 67 #[.pointer (some ⟨B, 0, none⟩)] W (fun e w' => e = .returned (.bool true) ∧ W = w') ∧
    (∀ now, Calls Try.prog 60 #[.pointer (some ⟨B, 0, none⟩), .int .i64 now] W fun e w' => e = .returned (.int .i64 (askA s now)) ∧ W = w') ∧
    (∀ now, Calls Try.prog 61 #[.pointer (some ⟨B, 0, none⟩), .int .i64 now] W fun e w' => e = .returned (.int .i64 (runEA s now)) ∧ W = w') ∧
    W.cell? ⟨B, 9, none⟩ = some (.func (.func 60) #[] #[]) ∧ W.cell? ⟨B, 10, none⟩ = some (.func (.func 61) #[] #[]) := by
  obtain ⟨h0, q, hq, rfl, rfl⟩ := h
  exact ⟨made_any hq, fun now => ask_any hq now, fun now => run_err hq now, hq.row.cell 9, hq.row.cell 10⟩
theorem runEA_zero {s : AQ} {now : Int} (h : runEA s now = 0) : 0 ≤ now ∧ now ≤ 1099511627776 ∧ s.told ≤ now ∧ now ≠ s.ran := by
  rw [runEA] at h
  split at h
  · rename_i h1; exact absurd h h1
  · rename_i h1
    have h2 : askA s now = 0 := Classical.not_not.1 h1
    rw [askA] at h2
    split at h2
    · cases h2
    · split at h2
      · cases h2
      · split at h
        · cases h
        · exact ⟨by omega, by omega, by omega, by assumption⟩
theorem AI.ran {T : Int} {s : AQ} (h : AI T s) (now : Int) (h0 : 0 ≤ now) (h1 : now ≤ 1099511627776) (hb : s.bud ≠ 0) : AI T (ranA now s) :=
  ⟨h.per0, h.per1, h.cap0, h.len, by have := h.bud0; show 0 ≤ s.bud - 1; omega, by have := h.chk0; show 0 ≤ s.chk + 1; omega, h.amt, by have := h.sum; show s.bud - 1 + sumL s.l + (s.chk + 1) = T; omega, h.tot, by show -1 ≤ now; omega, h1⟩
theorem SS.ran {W : World} {B G : Nat} {T : Int} {s : AQ} (h : SS B G T s W) (now : Int) (h0 : 0 ≤ now) (h1 : now ≤ 1099511627776) (hb : s.bud ≠ 0) :
    SS B G T (ranA now s) (((W.setCell ⟨B, 2, none⟩ (.int .i64 (s.bud - 1))).setCell ⟨B, 6, none⟩ (.int .i64 (s.chk + 1))).setCell ⟨B, 7, none⟩ (.int .i64 now)) := by
  obtain ⟨h', q, hq, rfl, rfl⟩ := h
  refine ⟨h'.ran now h0 h1 hb, { q with bud := q.bud - 1, chk := q.chk + 1, ran := now }, ?_, rfl, rfl⟩
  have a1 := hq.set 2 (.int .i64 (q.bud - 1)) { q with bud := q.bud - 1 } rfl rfl rfl rfl hq.fr hq.cnt
  have a2 := a1.set 6 (.int .i64 (q.chk + 1)) { q with bud := q.bud - 1, chk := q.chk + 1 } rfl rfl rfl rfl hq.fr hq.cnt
  exact a2.set 7 (.int .i64 now) { q with bud := q.bud - 1, chk := q.chk + 1, ran := now } rfl rfl rfl rfl hq.fr hq.cnt

theorem run_nil (now : Int) (w : World) : Calls Try.prog 36 #[.pointer none, .int .i64 now] w fun e w' => e = .returned (.int .i64 35) ∧ w = w' := by
  go_enter Try.func36, Try.ntmps36
  go_wp2_with (go_at_call 67; refine (made_nil _).mono ?_; rintro e w' ⟨rfl, rfl⟩)
  go_ret
  exact ⟨rfl, rfl⟩
theorem run_bad {W : World} {B G : Nat} {T : Int} {s : AQ} (h : SS B G T s W) (now : Int) (he : runEA s now ≠ 0) : Calls Try.prog 36 #[.pointer (some ⟨B, 0, none⟩), .int .i64 now] W (VS B G T (.int .i64 (runEA s now)) s W) := by
  obtain ⟨h1, h2, h3, c9, c10⟩ := h.calls
  have H1 := Lib.hid h1
  have H3 := Lib.hid (h3 now)
  have HH := Lib.hid h
  generalize runEA s now = z at he H3 ⊢
  have he' : (z != 0) = true := by simpa using he
  clear h h1 h2 h3 he
  go_enter Try.func36, Try.ntmps36
  go_wp2_with (first
    | (go_at_call 67; refine H1.out.mono ?_; rintro e w' ⟨rfl, rfl⟩)
    | (go_at_call 61; refine H3.out.mono ?_; rintro e w' ⟨rfl, rfl⟩))
  go_ret
  exact ⟨rfl, HH.out, Fr.refl _ _⟩
set_option maxHeartbeats 1000000 in
theorem run_any {W : World} {B G : Nat} {T : Int} {s : AQ} (h : SS B G T s W) (now : Int) : Calls Try.prog 36 #[.pointer (some ⟨B, 0, none⟩), .int .i64 now] W (VS B G T (.int .i64 (runV now s)) (runS now s) W) := by
  by_cases he : runEA s now = 0
  case neg =>
    rw [runV, runS, if_pos he, if_pos he]; exact run_bad h now he
  obtain ⟨k0, k1, _, _⟩ := runEA_zero he
  have HV : Hid (runV now s = if (tellA now s).bud = 0 then 18 else 0) := by show _ = _; rw [runV, if_neg (by rw [he]; simp)]
  have HS : Hid (runS now s = if (tellA now s).bud = 0 then tellA now s else if (ranA now (tellA now s)).bud = 0 then endA (ranA now (tellA now s)) else ranA now (tellA now s)) := by show _ = _; rw [runS, if_neg (by rw [he]; simp)]
  obtain ⟨h1, h2, h3, c9, c10⟩ := h.calls
  have H1 := Lib.hid h1
  have H3 := Lib.hid (h3 now)
  rw [he] at H3
  have HH := Lib.hid h
  have HT := Lib.hid (tell_any h now)
  generalize runV now s = v at HV ⊢
  generalize runS now s = s' at HS ⊢
  clear h h1 h2 h3 he
  generalize tellA now s = s1 at HV HS HT
  by_cases hb : s1.bud = 0
  · have hb' : (s1.bud == 0) = true := by simpa using hb
    rw [if_pos hb] at HV HS
    clear hb
    go_enter Try.func36, Try.ntmps36
    go_upto_region 7 with (first
      | (go_at_call 67; refine H1.out.mono ?_; rintro e w' ⟨rfl, rfl⟩)
      | (go_at_call 61; refine H3.out.mono ?_; rintro e w' ⟨rfl, rfl⟩)
      | (go_at_call 71; refine HT.out.mono ?_; rintro e W1 ⟨⟨v1, rfl⟩, s2, g2⟩; have S2 := Lib.hid s2; have G2 := Lib.hid g2; clear s2 g2 HT HH c9 c10))
    obtain ⟨_, _, c2, _, _, _, _⟩ := S2.out.cells
    go_wp2
    go_ret
    exact ⟨by rw [HV.out] <;> rfl, by rw [HS.out]; exact S2.out, G2.out⟩
  · have hb' : (s1.bud == 0) = false := by simpa using hb
    rw [if_neg hb] at HV HS
    have HB := Lib.hid hb
    clear hb
    go_enter Try.func36, Try.ntmps36
    go_upto_region 7 with (first
      | (go_at_call 67; refine H1.out.mono ?_; rintro e w' ⟨rfl, rfl⟩)
      | (go_at_call 61; refine H3.out.mono ?_; rintro e w' ⟨rfl, rfl⟩)
      | (go_at_call 71; refine HT.out.mono ?_; rintro e W1 ⟨⟨v1, rfl⟩, s2, g2⟩; have S2 := Lib.hid s2; have G2 := Lib.hid g2; clear s2 g2 HT HH c9 c10))
    obtain ⟨_, _, c2, c6, c7, _, ff⟩ := S2.out.cells
    have f2 := ff 2
    have f6 := ff 6
    have f7 := ff 7
    have b0 : 0 ≤ s1.bud := S2.out.1.bud0
    have b1 : 0 ≤ s1.chk := S2.out.1.chk0
    have b2 : s1.bud + s1.chk ≤ 1000000 := by have := S2.out.1.sum; have := sumL_nonneg S2.out.1.amt; have := S2.out.1.tot; omega
    have b3 : 1 ≤ s1.bud := by have := HB.out; omega
    have b4 : s1.bud ≤ 1000000 := by omega
    have b5 : s1.chk ≤ 1000000 := by omega
    have HS3 := Lib.hid (S2.out.ran now k0 k1 HB.out)
    have HG3 : Hid (Fr (fun k => k = B ∨ k = G) _ (((W1.setCell ⟨B, 2, none⟩ (.int .i64 (s1.bud - 1))).setCell ⟨B, 6, none⟩ (.int .i64 (s1.chk + 1))).setCell ⟨B, 7, none⟩ (.int .i64 now))) := G2.out.trans (((Fr.set _ _ _ _ (.inl rfl)).trans (Fr.set _ _ _ _ (.inl rfl))).trans (Fr.set _ _ _ _ (.inl rfl)))
    clear ff b2
    go_upto_region 12 with (fail)
    clear c2 c6 c7 f2 f6 f7 b0 b1 b3 b4 b5
    generalize World.setCell (World.setCell (World.setCell W1 _ _) _ _) _ _ = W2 at HS3 HG3 ⊢
    have HX : Hid ((ranA now s1).bud = s1.bud - 1) := rfl
    obtain ⟨_, _, c2, _, _, _, _⟩ := HS3.out.cells
    by_cases hz : (ranA now s1).bud = 0
    · rw [if_pos hz] at HS
      have hz' : ((ranA now s1).bud == 0) = true := by simpa using hz
      have HE := Lib.hid (end_ss HS3.out)
      clear hz
      generalize (ranA now s1).bud = z at c2 hz'
      go_wp2_with (go_at_call 72; refine HE.out.mono ?_; rintro e W3 ⟨⟨v3, rfl⟩, s3, g3⟩; have S3 := Lib.hid s3; have G3 := Lib.hid (HG3.out.trans g3); clear s3 g3)
      go_ret
      exact ⟨by rw [HV.out] <;> rfl, by rw [HS.out]; exact S3.out, G3.out⟩
    · rw [if_neg hz] at HS
      have hz' : ((ranA now s1).bud == 0) = false := by simpa using hz
      clear hz
      generalize (ranA now s1).bud = z at c2 hz'
      go_wp2
      go_ret
      exact ⟨by rw [HV.out] <;> rfl, by rw [HS.out]; exact HS3.out, HG3.out⟩

theorem budget_nil (now : Int) (w : World) : Calls Try.prog 37 #[.pointer none, .int .i64 now] w fun e w' => e = .returned (.tuple #[.int .i64 0, .int .i64 35]) ∧ w = w' := by
  go_enter Try.func37, Try.ntmps37
  go_wp2_with (go_at_call 67; refine (made_nil _).mono ?_; rintro e w' ⟨rfl, rfl⟩)
  go_ret2
  exact ⟨rfl, rfl⟩
theorem budget_any {W : World} {B G : Nat} {T : Int} {s : AQ} (h : SS B G T s W) (now : Int) : Calls Try.prog 37 #[.pointer (some ⟨B, 0, none⟩), .int .i64 now] W (VS B G T (.tuple #[.int .i64 (budV now s).1, .int .i64 (budV now s).2]) (budS now s) W) := by
  obtain ⟨h1, h2, h3, c9, c10⟩ := h.calls
  have H1 := Lib.hid h1
  have H3 := Lib.hid (h2 now)
  have HH := Lib.hid h
  have HT := Lib.hid (tell_any h now)
  by_cases he : askA s now = 0
  · have HV : Hid (budV now s = ((tellA now s).bud, 0)) := by show _ = _; rw [budV, if_neg (by simpa using he)]
    have HS : Hid (budS now s = tellA now s) := by show _ = _; rw [budS, if_neg (by simpa using he)]
    rw [he] at H3
    generalize budV now s = v at HV ⊢
    generalize budS now s = s' at HS ⊢
    clear h h1 h2 h3 he c10
    go_enter Try.func37, Try.ntmps37
    go_upto_region 7 with (first
      | (go_at_call 67; refine H1.out.mono ?_; rintro e w' ⟨rfl, rfl⟩)
      | (go_at_call 60; refine H3.out.mono ?_; rintro e w' ⟨rfl, rfl⟩)
      | (go_at_call 71; refine HT.out.mono ?_; rintro e W1 ⟨⟨v1, rfl⟩, s2, g2⟩; have S2 := Lib.hid s2; have G2 := Lib.hid g2; clear s2 g2 HT HH c9))
    obtain ⟨_, _, c2, _, _, _, _⟩ := S2.out.cells
    go_wp2
    go_ret2
    exact ⟨by rw [HV.out] <;> rfl, by rw [HS.out]; exact S2.out, G2.out⟩
  · have HV : Hid (budV now s = (0, askA s now)) := by show _ = _; rw [budV, if_pos he]
    have HS : Hid (budS now s = s) := by show _ = _; rw [budS, if_pos he]
    generalize budV now s = v at HV ⊢
    generalize budS now s = s' at HS ⊢
    generalize askA s now = z at he H3 HV
    have he' : (z != 0) = true := by simpa using he
    clear h h1 h2 h3 he c10
    go_enter Try.func37, Try.ntmps37
    go_wp2_with (first
      | (go_at_call 67; refine H1.out.mono ?_; rintro e w' ⟨rfl, rfl⟩)
      | (go_at_call 60; refine H3.out.mono ?_; rintro e w' ⟨rfl, rfl⟩))
    go_ret2
    exact ⟨by rw [HV.out] <;> rfl, by rw [HS.out]; exact HH.out, Fr.refl _ _⟩

theorem pri_nil (now p : Int) (w : World) : Calls Try.prog 64 #[.pointer none, .int .i64 now, .int .i64 p] w fun e w' => e = .returned (.tuple #[.int .i64 0, .int .i64 35]) ∧ w = w' := by
  go_enter Try.func64, Try.ntmps64
  go_wp2_with (first
    | (go_at_call 67; refine (made_nil _).mono ?_; rintro e w' ⟨rfl, rfl⟩)
    | (go_at_call 37; refine (budget_nil _ _).mono ?_; rintro e w' ⟨rfl, rfl⟩))
  go_ret2
  exact ⟨rfl, rfl⟩
theorem pri_any {W : World} {B G : Nat} {T : Int} {s : AQ} (h : SS B G T s W) (now p : Int) : Calls Try.prog 64 #[.pointer (some ⟨B, 0, none⟩), .int .i64 now, .int .i64 p] W (VS B G T (.tuple #[.int .i64 (priV now p s).1, .int .i64 (priV now p s).2]) (priS now p s) W) := by
  obtain ⟨h1, h2, h3, c9, c10⟩ := h.calls
  have H1 := Lib.hid h1
  have HH := Lib.hid h
  by_cases hp : isPri p = true
  · have HV : Hid (priV now p s = if (budV now s).2 ≠ 0 then (0, (budV now s).2) else if (budV now s).1 = 0 then (if p < s.low then p else s.low, 0) else (p, 0)) := by show _ = _; rw [priV, if_pos hp]
    have HS : Hid (priS now p s = budS now s) := by show _ = _; rw [priS, if_pos hp]
    have HP : Hid (∀ w, Calls Try.prog 62 #[.int .i64 p] w fun e w' => e = .returned (.bool true) ∧ w = w') := fun w => by have := ispri_any p w; rw [hp] at this; exact this
    have HBU := Lib.hid (budget_any h now)
    have HLO : Hid ((budS now s).low = s.low) := by
      show _ = _
      rw [budS]; split
      · rfl
      · rw [tellA]; split
        · show (endA (takeA (s.ran + 1) s)).low = s.low
          rw [endA]; split <;> rfl
        · rfl
    generalize priV now p s = v at HV ⊢
    generalize priS now p s = s' at HS ⊢
    generalize budV now s = bv at HV HBU
    generalize budS now s = s1 at HS HBU HLO
    obtain ⟨n, z⟩ := bv
    clear h h1 h2 h3 c9 c10 hp
    by_cases hz : z = 0
    · have hz' : (z != 0) = false := by simpa using hz
      have HV2 : Hid (v = if n = 0 then (if p < s.low then p else s.low, 0) else (p, 0)) := by show _ = _; rw [HV.out, if_neg (by simpa using hz)]
      clear hz HV
      by_cases hn : n = 0
      · have hn' : (n == 0) = true := by simpa using hn
        have HV3 : Hid (v = (if p < s.low then p else s.low, 0)) := by show _ = _; rw [HV2.out, if_pos hn]
        clear hn HV2
        go_enter Try.func64, Try.ntmps64
        go_upto_region 7 with (first
          | (go_at_call 67; refine H1.out.mono ?_; rintro e w' ⟨rfl, rfl⟩)
          | (go_at_call 62; refine (HP.out _).mono ?_; rintro e w' ⟨rfl, rfl⟩)
          | (go_at_call 37; refine HBU.out.mono ?_; rintro e W1 ⟨rfl, s2, g2⟩; have S2 := Lib.hid s2; have G2 := Lib.hid g2; clear s2 g2 HH))
        obtain ⟨_, c1, _, _, _, _, _⟩ := S2.out.cells
        rw [HLO.out] at c1
        by_cases hl : p < s.low
        · rw [if_pos hl] at HV3
          go_wp2
          go_ret2
          exact ⟨by rw [HV3.out] <;> rfl, by rw [HS.out]; exact S2.out, G2.out⟩
        · rw [if_neg hl] at HV3
          go_wp2
          go_ret2
          exact ⟨by rw [HV3.out] <;> rfl, by rw [HS.out]; exact S2.out, G2.out⟩
      · have hn' : (n == 0) = false := by simpa using hn
        have HV3 : Hid (v = (p, 0)) := by show _ = _; rw [HV2.out, if_neg hn]
        clear hn HV2
        go_enter Try.func64, Try.ntmps64
        go_wp2_with (first
          | (go_at_call 67; refine H1.out.mono ?_; rintro e w' ⟨rfl, rfl⟩)
          | (go_at_call 62; refine (HP.out _).mono ?_; rintro e w' ⟨rfl, rfl⟩)
          | (go_at_call 37; refine HBU.out.mono ?_; rintro e W1 ⟨rfl, s2, g2⟩; have S2 := Lib.hid s2; have G2 := Lib.hid g2; clear s2 g2 HH))
        go_ret2
        exact ⟨by rw [HV3.out] <;> rfl, by rw [HS.out]; exact S2.out, G2.out⟩
    · have hz' : (z != 0) = true := by simpa using hz
      have HV2 : Hid (v = (0, z)) := by show _ = _; rw [HV.out, if_pos hz]
      clear hz HV
      go_enter Try.func64, Try.ntmps64
      go_wp2_with (first
        | (go_at_call 67; refine H1.out.mono ?_; rintro e w' ⟨rfl, rfl⟩)
        | (go_at_call 62; refine (HP.out _).mono ?_; rintro e w' ⟨rfl, rfl⟩)
        | (go_at_call 37; refine HBU.out.mono ?_; rintro e W1 ⟨rfl, s2, g2⟩; have S2 := Lib.hid s2; have G2 := Lib.hid g2; clear s2 g2 HH))
      go_ret2
      exact ⟨by rw [HV2.out] <;> rfl, by rw [HS.out]; exact S2.out, G2.out⟩
  · have hp' : isPri p = false := by simpa using hp
    have HV : Hid (priV now p s = (0, 34)) := by show _ = _; rw [priV, if_neg hp]
    have HS : Hid (priS now p s = s) := by show _ = _; rw [priS, if_neg hp]
    have HP : Hid (∀ w, Calls Try.prog 62 #[.int .i64 p] w fun e w' => e = .returned (.bool false) ∧ w = w') := fun w => by have := ispri_any p w; rw [hp'] at this; exact this
    generalize priV now p s = v at HV ⊢
    generalize priS now p s = s' at HS ⊢
    clear h h1 h2 h3 c9 c10 hp hp'
    go_enter Try.func64, Try.ntmps64
    go_wp2_with (first
      | (go_at_call 67; refine H1.out.mono ?_; rintro e w' ⟨rfl, rfl⟩)
      | (go_at_call 62; refine (HP.out _).mono ?_; rintro e w' ⟨rfl, rfl⟩))
    go_ret2
    exact ⟨by rw [HV.out] <;> rfl, by rw [HS.out]; exact HH.out, Fr.refl _ _⟩

theorem next_nil (w : World) : Calls Try.prog 34 #[.pointer none] w fun e w' => e = .returned (.tuple #[.int .i64 0, .bool false]) ∧ w = w' := by
  go_enter Try.func34, Try.ntmps34
  go_wp2_with (go_at_call 67; refine (made_nil _).mono ?_; rintro e w' ⟨rfl, rfl⟩)
  go_ret2
  exact ⟨rfl, rfl⟩
def nextV (s : AQ) : Int × Bool := match s.l with | [] => (0, false) | x :: _ => (x.1, true)
theorem next_any {W : World} {B G : Nat} {T : Int} {s : AQ} (h : SS B G T s W) : Calls Try.prog 34 #[.pointer (some ⟨B, 0, none⟩)] W (VS B G T (.tuple #[.int .i64 (nextV s).1, .bool (nextV s).2]) s W) := by
  obtain ⟨h1, _⟩ := h.calls
  have HH := Lib.hid h
  have H1 := Lib.hid h1
  obtain ⟨h0, q, hq, rfl, rfl⟩ := h
  have HE := Lib.hid (empty_any hq)
  have HF := Lib.hid (first_any hq)
  by_cases hc : q.count = 0
  · have HV : Hid (nextV (ab q) = (0, false)) := by
      show _ = _
      have hl : (ab q).l = [] := List.length_eq_zero_iff.1 (by show (lst q).length = 0; rw [lst_len]; exact hc)
      rw [nextV, hl]
    rw [decide_eq_true hc] at HE
    generalize nextV (ab q) = v at HV ⊢
    clear h1 h0 hq hc
    go_enter Try.func34, Try.ntmps34
    go_wp2_with (first
      | (go_at_call 67; refine H1.out.mono ?_; rintro e w' ⟨rfl, rfl⟩)
      | (go_at_call 69; refine HE.out.mono ?_; rintro e w' ⟨rfl, rfl⟩))
    go_ret2
    exact ⟨by rw [HV.out] <;> rfl, HH.out, Fr.refl _ _⟩
  · have HV : Hid (nextV (ab q) = ((q.pl q.front).1, true)) := by
      show _ = _
      have hl : (ab q).l = q.pl q.front :: lst (dropQ q) := lst_drop q hq.fr (by omega)
      rw [nextV, hl]
    rw [decide_eq_false hc] at HE
    have p1 := hq.p1 q.front hq.fr
    generalize nextV (ab q) = v at HV ⊢
    clear h1 h0 hq hc
    go_enter Try.func34, Try.ntmps34
    go_wp2_with (first
      | (go_at_call 67; refine H1.out.mono ?_; rintro e w' ⟨rfl, rfl⟩)
      | (go_at_call 69; refine HE.out.mono ?_; rintro e w' ⟨rfl, rfl⟩)
      | (go_at_call 70; refine HF.out.mono ?_; rintro e w' ⟨rfl, n, rfl⟩))
    go_ret2
    exact ⟨by rw [HV.out] <;> rfl, HH.out.keep (Fr.drewN (fun _ => False) _ _) id id, Fr.drewN _ _ _⟩
end Go.Proofs.Ytibmmonboeifhaa
