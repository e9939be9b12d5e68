/- Package sched: enter, Ready. -/
import Derived.Test.YtjaaljcdaamcjaaGreatDi
namespace Go.Proofs.YtjaaljcdaamcjaaGreat
open Go.RowKit Go.Proofs.YtjaaljcdaamcjaaGreat.Pa
set_option linter.unusedVariables false

section
variable {S : Nat} {s : ST} {C : CF} {T : Nat} {L : List Ch} {ls : Nat → List Nat} {mk : Nat → Nat} {en : Nat → Option En} {W W' : World}
theorem SI.queued {ls' : Nat → List Nat} {mk' : Nat → Nat} (h : SI S s C T L ls mk en W) (hf : Fr (fun k => k = s.qb) W W') (q : Rd.QP s.qb ls' mk' W') : SI S s C T L ls' mk' en W' :=
  ⟨h.row.fr hf h.ne.2.1, h.met.fr hf h.ne.2.2, q, fun t b e => by obtain ⟨x, h1, h2, h3⟩ := h.ent t b e; exact ⟨x, h1, h2, h3.fr hf (h.nt t b e).2.2⟩, h.non, h.ne, h.nt, h.inj⟩
theorem SI.upd (h : SI S s C T L ls mk en W) {t b : Nat} {e : En} (hb : s.th t = some b) (hf : Fr (fun k => k = b) W W') (hn : e.num = t) (he : EAt W' b e none) : SI S s C T L ls mk (updE en t (some e)) W' := by
  have hd := h.nt t b hb
  refine ⟨h.row.fr hf (fun x => hd.1 x.symm), h.met.fr hf (fun x => hd.2.1 x.symm), qp_fr h.que hf (fun x => hd.2.2 x.symm), fun t' b' e' => ?_, fun t' e' => ?_, h.ne, h.nt, h.inj⟩
  · by_cases ht : t' = t
    · subst ht
      have : b = b' := by rw [hb] at e'; injection e'
      subst this
      exact ⟨e, by simp [updE], hn, he⟩
    · obtain ⟨x, h1, h2, h3⟩ := h.ent t' b' e'
      exact ⟨x, by simp [updE, ht, h1], h2, h3.fr hf (fun x => ht (h.inj t' t b' e' (by rw [hb]; exact congrArg some x.symm)))⟩
  · by_cases ht : t' = t
    · subst ht; rw [hb] at e'; cases e'
    · simp [updE, ht, h.non t' e']
set_option maxRecDepth 100000 in
theorem enter_ok (h : SI S s C T L ls mk en W) (t b : Nat) (ht : t < 256) (hb : s.th t = some b) (hm : mk t = 0) : Calls Tryz.prog 75 #[.pointer (some ⟨S, 0, none⟩), .pointer (some ⟨b, 0, none⟩)] W fun e w' => (∃ v, e = .returned v) ∧ SI S s C T L (Rd.ins ls t 0 false) (Rd.upd mk t 1) en w' ∧ Fr (fun k => k = s.qb) W w' := by
  have HS := Lib.hid h
  obtain ⟨x, hx1, hx2, hx3⟩ := h.ent t b hb
  have HA : Hid (∀ W2, Rd.QP s.qb ls mk W2 → Calls Tryz.prog 119 #[.pointer (some ⟨s.qb, 0, none⟩), .int .i64 (t : Int), .int .i64 0, .int .i64 1, .bool false] W2 (Rd.QPE (.int .i64 0) s.qb (Rd.ins ls t 0 false) (Rd.upd mk t 1) W2)) := fun W2 q => Rd.add_ok q t 0 1 false ht (by omega) (by omega) (by omega) hm
  have HE := Lib.hid hx3
  have c0 : W.cell? ⟨S, 259, none⟩ = some (.pointer (some ⟨s.qb, 0, none⟩)) := h.row.qb
  have c1 : W.cell? ⟨b, 0, none⟩ = some (.int .i64 (t : Int)) := by have := RowAt.cell hx3 0; rw [this]; show some (Value.int .i64 (x.num : Int)) = _; rw [hx2]
  have HQ : Hid (∀ W2, Fr (fun k => k = s.qb) W W2 → W2.cell? ⟨S, 259, none⟩ = some (.pointer (some ⟨s.qb, 0, none⟩)) ∧ W2.cell? ⟨b, 0, none⟩ = some (.int .i64 (t : Int))) := fun W2 f => by
    refine ⟨(h.row.fr f h.ne.2.1).qb, ?_⟩
    have := RowAt.cell (hx3.fr f (h.nt t b hb).2.2) 0; rw [this]; show some (Value.int .i64 (x.num : Int)) = _; rw [hx2]
  clear h hx1 hx2 hx3 hm hb
  go_enter Tryz.func75, Tryz.ntmps75
  go_region_held3 (fun w' => w'.cell? ⟨S, 259, none⟩ = some (.pointer (some ⟨s.qb, 0, none⟩)) ∧ w'.cell? ⟨b, 0, none⟩ = some (.int .i64 (t : Int)))
    (first | (exact ⟨c0, c1⟩) | (exact HQ.out _ F2.out))
    (first
      | (go_at_call 119; refine (HA.out (World.drew W) HS.out.que).mono ?_; rintro e W2 ⟨rfl, g2, q2⟩; have F2 : Hid (Fr (fun k => k = s.qb) W W2) := (frD (Fr.refl _ _)).trans (fr_grown g2 (fun _ e => by cases e; rfl)); have Q2 := Lib.hid q2; clear g2 q2)
      | (go_at_call 79; refine (must_ok _).mono ?_; rintro e w3 ⟨rfl, f3⟩; subst f3))
  go_wp2
  go_end0
  exact ⟨⟨_, rfl⟩, HS.out.queued F2.out Q2.out, F2.out⟩
set_option maxRecDepth 100000 in
theorem ready_ok (h : SI S s C T L ls mk en W) (t b : Nat) (ht : t < 256) (hb : s.th t = some b) (hm : mk t = 0) {e : En} (he : en t = some e) (hr : e.rdy = false) : Calls Tryz.prog 28 #[.pointer (some ⟨S, 0, none⟩), .int .i64 (t : Int)] W fun r w' => r = .returned (.int .i64 0) ∧ SI S s C T L (Rd.ins ls t 0 false) (Rd.upd mk t 1) (updE en t (some { e with rdy := true, left := e.par.sli })) w' ∧ Fr (fun k => OW S s k) W w' := by
  have hmf := hmf_any
  have HS := Lib.hid h
  have HB := Lib.hid hb
  have HM := Lib.hid hm
  have HT := Lib.hid ht
  obtain ⟨x, hx1, hx2, hx3⟩ := h.ent t b hb
  rw [he] at hx1
  injection hx1 with hx1
  subst hx1
  have HR := Lib.hid hr
  have HE := Lib.hid hx3
  have HN := Lib.hid hx2
  clear h hb hm he hr hx2 hx3
  go_enter_defers Tryz.func28, Tryz.ntmps28
  go_upto_region 1 with (fail)
  have HF1 : Hid (Fr Non W (W.alloc (.cells #[.int .i64 0] 28))) := frA (Fr.refl _ _)
  have HE1 : Hid (RowAt (W.alloc (.cells #[.int .i64 0] 28)) W.heap.size 28 #[.int .i64 0]) := RowAt.new _ _ _
  generalize W.alloc _ = W1 at HF1 HE1 ⊢
  obtain ⟨y, hy⟩ : ∃ y, W.heap.size = y := ⟨_, rfl⟩
  have HYY := Lib.hid hy
  rw [hy] at HE1 ⊢
  clear hy
  have HS1 := Lib.hid (HS.out.fr HF1.out (fun _ _ e => e))
  have HX1 := Lib.hid (HE.out.fr HF1.out id)
  have HFI := Lib.hid (findin_ok HS1.out.row t b ht HB.out HX1.out false HR.out)
  have d2 : W1.cell? ⟨b, 2, none⟩ = some (.bool e.rdy) := RowAt.cell HX1.out 2
  have f2 : W1.frozen? ⟨b, 2, none⟩ = false := RowAt.frozen HX1.out 2
  go_upto_region 4 with (go_at_call 73; refine HFI.out.mono ?_; rintro e w2 ⟨rfl, f2⟩; subst f2)
  have HX2 : Hid (EAt (W1.setCell ⟨b, 2, none⟩ (.bool true)) b { e with rdy := true } none) := RowAt.set HX1.out 2 (.bool true)
  have HF2 : Hid (Fr (fun k => k = b) W1 (W1.setCell ⟨b, 2, none⟩ (.bool true))) := Fr.set _ _ _ _ rfl
  clear d2 f2
  generalize W1.setCell _ _ = W2 at HX2 HF2 ⊢
  go_upto_region 5 with (go_at_call 74; refine (refill_any HX2.out).mono ?_; rintro r W3 ⟨⟨v, rfl⟩, he, f3⟩; have HX3 := Lib.hid he; have HF3 := Lib.hid (HF2.out.trans f3); clear he f3)
  have HS3 : Hid (SI S s C T L ls mk (updE en t (some { e with rdy := true, left := e.par.sli })) W3) := HS1.out.upd HB.out HF3.out HN.out HX3.out
  go_upto_region 6 with (go_at_call 75; refine (enter_ok HS3.out t b HT.out HB.out HM.out).mono ?_; rintro r W4 ⟨⟨v, rfl⟩, he, f4⟩; have HS4 := Lib.hid he; have HF4 := Lib.hid f4; clear he f4)
  have HO : Hid (∀ k, OW S s k → ¬ k = y) := fun k hk e => by have := HS.out.own_lt hk; have := HYY.out; omega
  have HE4 : Hid (RowAt W4 y 28 #[.int .i64 0]) := (HE1.out.fr HF3.out (fun x => HO.out b (.inr (.inr (.inr ⟨t, HB.out⟩))) x.symm)).fr HF4.out (fun x => HO.out s.qb (.inr (.inr (.inl rfl))) x.symm)
  have HF5 : Hid (Fr (fun k => OW S s k) W W4) := ((HF1.out.mono (fun _ _ e => (nomatch e))).trans (HF3.out.mono (fun k _ e => by subst e; exact .inr (.inr (.inr ⟨t, HB.out⟩))))).trans (HF4.out.mono (fun k _ e => .inr (.inr (.inl e))))
  have e0 : W4.cell? ⟨y, 0, none⟩ = some (.int .i64 0) := HE4.out.cell 0
  have e1 : W4.frozen? ⟨y, 0, none⟩ = false := HE4.out.frozen 0
  go_wp2
  refine leaves_cons (f := 72) (args := #[.pointer (some ⟨y, 0, none⟩)]) (by simp) (by simp [go_sem]) ?_
  refine (endReady ⟨y, 0, none⟩ 0 _ (by simp [go_sem, e0]) (by simp [go_sem, e1])).mono ?_
  rintro e u' w'' ⟨rfl, rfl, rfl⟩
  simp [Leaves, settle, results, Tryz.results28, go_sem, e0]
  have hy2 : W.heap.size ≤ y := by have := HYY.out; omega
  have hyf : Fr (fun k => k = y) W4 ((W4.setCell ⟨y, 0, none⟩ (.int .i64 0)).setCell ⟨y, 0, none⟩ (.int .i64 0)) := frY (frY (Fr.refl _ _))
  exact ⟨HS4.out.fr hyf HO.out, frSn (frSn HF5.out hy2) hy2⟩
end
end Go.Proofs.YtjaaljcdaamcjaaGreat
