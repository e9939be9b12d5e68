/- Package sched: times; whether a thread is eligible, its current priority. -/
import Derived.Test.YtjaaljcdaamcjaaGreatDj
import Derived.Test.YtjaaljcdaamcjaaGreatMh
namespace Go.Proofs.YtjaaljcdaamcjaaGreat
open Go.RowKit Go.Proofs.YtjaaljcdaamcjaaGreat.Pa
set_option linter.unusedVariables false

theorem time_ok (n : Nat) (h : n ≤ 1099511627776) (w : World) : Calls Tryz.prog 45 #[.int .i64 (n : Int)] w fun e w' => e = .returned (.tuple #[]) ∧ w = w' := by
  have h0 : (0 : Int) ≤ n := by omega
  have h1 : (n : Int) ≤ 1099511627776 := by omega
  go_enter Tryz.func45, Tryz.ntmps45
  go_wp2_with (go_at_call 58; refine (require_ok _ _).mono ?_; rintro e w2 ⟨rfl, f2⟩; subst f2)
  go_end0
  exact ⟨rfl, rfl⟩
section
variable {S : Nat} {s : ST} {C : CF} {T : Nat} {L : List Ch} {ls : Nat → List Nat} {mk : Nat → Nat} {en : Nat → Option En} {W W' : World}
theorem SI.cells (h : SI S s C T L ls mk en W) {s' : ST} (hf : Fr (fun k => k = S) W W') (hr : SAt W' S s') (h1 : s'.mb = s.mb) (h2 : s'.qb = s.qb) (h3 : s'.th = s.th) : SI S s' C T L ls mk en W' := by
  obtain ⟨p1, p2, p3, p4, p5, p6, p7⟩ := s'
  simp only at h1 h2 h3
  subst h1 h2 h3
  exact ⟨hr, h.met.fr hf (fun e => h.ne.1 e.symm), qp_fr h.que hf (fun e => h.ne.2.1 e.symm), fun t b e => by obtain ⟨x, q1, q2, q3⟩ := h.ent t b e; exact ⟨x, q1, q2, q3.fr hf (h.nt t b e).1⟩, h.non, h.ne, h.nt, h.inj⟩
theorem tell_sched (h : SI S s C T L ls mk en W) (n : Nat) (hn : s.told ≤ n) : Calls Tryz.prog 50 #[.pointer (some ⟨S, 0, none⟩), .int .i64 (n : Int)] W fun e w' => (∃ v, e = .returned v) ∧ SI S { s with told := n } C T L ls mk en w' ∧ Fr (fun k => k = S) W w' := by
  have HS := Lib.hid h
  have c0 := h.row.told
  have f0 := h.row.frozen 260
  have g0 : (s.told : Int) ≤ n := by omega
  clear h hn
  go_enter Tryz.func50, Tryz.ntmps50
  go_wp2_with (go_at_call 58; refine (require_ok _ _).mono ?_; rintro e w2 ⟨rfl, f2⟩; subst f2)
  go_end0
  have hf : Fr (fun k => k = S) W (W.setCell ⟨S, 260, none⟩ (.int .i64 (n : Int))) := Fr.set _ _ _ _ rfl
  exact ⟨⟨_, rfl⟩, HS.out.cells hf (HS.out.row.setTold n) rfl rfl rfl, hf⟩
theorem SI.time (h : SI S s C T L ls mk en W) {n : Nat} (hf : Fr (fun k => k = s.mb) W W') (hm : MS s.mb C n L W') : SI S s C n L ls mk en W' :=
  ⟨h.row.fr hf h.ne.1, hm, qp_fr h.que hf (fun e => h.ne.2.2 e.symm), fun t b e => by obtain ⟨x, q1, q2, q3⟩ := h.ent t b e; exact ⟨x, q1, q2, q3.fr hf (h.nt t b e).2.1⟩, h.non, h.ne, h.nt, h.inj⟩
/-- Whether a partition has budget at a time. -/
def hasBu (C : CF) (L : List Ch) (n k : Nat) : Bool := decide ((useL L C.win n k : Int) < C.bud k)
theorem er_zero {C : CF} {T n k : Nat} (h0 : T ≤ n) (h1 : n ≤ 1099511627776) (hk : k < C.np) : erV C T n [(k : Int)] = 0 := by
  unfold erV
  rw [chk_ok]
  refine ⟨⟨by omega, by omega⟩, ?_, by omega⟩
  simp [hasB]
  omega
theorem hasbu_ok {B : Nat} (h : MS B C T L W) (n k : Nat) (h0 : T ≤ n) (h1 : n ≤ 1099511627776) (hk : k < C.np) : Calls Tryz.prog 108 #[.pointer (some ⟨B, 0, none⟩), .int .i64 (n : Int), .int .i64 (k : Int)] W fun e w' => e = .returned (.tuple #[.bool (hasBu C L n k), .int .i64 0]) ∧ MS B C n L w' ∧ Fr (fun j => j = B) W w' := by
  refine (hasb_any h n k).mono ?_
  rintro e w' ⟨rfl, hm, hf⟩
  rw [show tiV C T (n : Int) [(k : Int)] = n from by unfold tiV; rw [if_pos (er_zero h0 h1 hk)]; omega] at hm
  refine ⟨?_, hm, hf⟩
  unfold hbV
  rw [if_pos (er_zero h0 h1 hk)]
  simp [hasBu]
set_option maxRecDepth 100000 in
theorem iselig_ok (h : SI S s C T L ls mk en W) (t b : Nat) (hb : s.th t = some b) {e : En} (he : en t = some e) (n k : Nat) (h0 : T ≤ n) (h1 : n ≤ 1099511627776) (hk : k < C.np) (hp : e.par.prt = k) (hc : e.par.cri = false) : Calls Tryz.prog 134 #[.pointer (some ⟨S, 0, none⟩), .pointer (some ⟨b, 0, none⟩), .int .i64 (n : Int)] W fun r w' => r = .returned (.bool (hasBu C L n k)) ∧ SI S s C n L ls mk en w' ∧ Fr (fun j => j = s.mb) W w' := by
  have HS := Lib.hid h
  obtain ⟨x, hx1, hx2, hx3⟩ := h.ent t b hb
  rw [he] at hx1
  injection hx1 with hx1
  subst hx1
  have HH := Lib.hid (hasbu_ok h.met n k h0 h1 hk)
  have HX := Lib.hid hx3
  have c8 : W.cell? ⟨b, 8, none⟩ = some (.int .i64 (k : Int)) := by have := RowAt.cell hx3 8; rw [this]; show some (Value.int .i64 e.par.prt) = _; rw [hp]
  have c2 := h.row.mb
  have HK : Hid (∀ W2, Fr (fun j => j = s.mb) W W2 → W2.cell? ⟨b, 9, none⟩ = some (.bool false)) := fun W2 f => by
    have := RowAt.cell (hx3.fr f (h.nt t b hb).2.1) 9; rw [this]; show some (Value.bool e.par.cri) = _; rw [hc]
  clear h hb he h0 h1 hk hp hc hx2 hx3
  generalize hasBu C L n k = v at HH ⊢
  cases v
  all_goals
    go_enter Tryz.func134, Tryz.ntmps134
    go_wp2_with (first
      | (go_at_call 108; refine HH.out.mono ?_; rintro e2 W2 ⟨rfl, hm, hf⟩; have HF := Lib.hid hf; have HM := Lib.hid hm; have c9 := HK.out _ HF.out; clear hf hm)
      | (go_at_call 107; refine (valB_ok _ _).mono ?_; rintro e3 W3 ⟨rfl, f3⟩; subst f3))
    go_ret
    exact ⟨rfl, HS.out.time HF.out HM.out, HF.out⟩
theorem curpri_ok (h : SI S s C T L ls mk en W) (t b : Nat) (hb : s.th t = some b) {e : En} (he : en t = some e) (n : Int) : Calls Tryz.prog 135 #[.pointer (some ⟨b, 0, none⟩), .int .i64 n] W fun r w' => r = .returned (.int .i64 e.pri) ∧ W = w' := by
  obtain ⟨x, hx1, hx2, hx3⟩ := h.ent t b hb
  rw [he] at hx1
  injection hx1 with hx1
  subst hx1
  have c1 : W.cell? ⟨b, 1, none⟩ = some (.int .i64 e.pri) := RowAt.cell hx3 1
  have c14 : W.cell? ⟨b, 14, none⟩ = some (.pointer none) := RowAt.cell hx3 14
  clear h hb he hx2 hx3
  go_enter Tryz.func135, Tryz.ntmps135
  go_wp2
  go_ret
  exact ⟨rfl, rfl⟩
end
end Go.Proofs.YtjaaljcdaamcjaaGreat
