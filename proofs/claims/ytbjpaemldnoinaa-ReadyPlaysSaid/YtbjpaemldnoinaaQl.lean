/- ReadyPlays: each method of the queue, then the same of the reference: the same answer, and still the same queue. -/
import Derived.Test.YtbjpaemldnoinaaQk
namespace Go.Proofs.Ytbjpaemldnoinaa
open Go.RowKit
set_option linter.unusedVariables false

theorem QP.fr {B : Nat} {ls : Nat → List Nat} {mk : Nat → Nat} {W W' : World} {S : Nat → Prop} (h : QP B ls mk W) (hf : Fr S W W') (hB : ¬ S B) : QP B ls mk W' := by
  obtain ⟨q, h1, h2⟩ := h
  exact ⟨q, RowAt.fr h1 hf hB, h2⟩
/-- Both queues hold the same. -/
structure PlQ (W0 : World) (B lo R : Nat) (ls : Nat → List Nat) (mk : Nat → Nat) (W : World) : Prop where
  a : QP B ls mk W
  b : RQ lo R (ents mk ls 256) W
  lb : B < lo
  bel : Below W0.heap.size W0 W
  b0 : W0.heap.size ≤ B
def PlE (W0 : World) (B lo R : Nat) (W : World) : Prop := ∃ ls mk, PlQ W0 B lo R ls mk W
theorem PlQ.rest {W0 W W' : World} {B lo R : Nat} {ls : Nat → List Nat} {mk : Nat → Nat} (h : PlQ W0 B lo R ls mk W) (hf : Fr (fun _ => False) W W') : PlQ W0 B lo R ls mk W' :=
  ⟨h.a.fr hf id, h.b.keep hf (fun _ e => e.elim), h.lb, Fr.below h.bel hf h.bel.size (fun _ e => e.elim), h.b0⟩
/-- What a method of the queue leaves, before the reference is asked. -/
structure MidQ (W0 : World) (B lo R : Nat) (ls ls' : Nat → List Nat) (mk mk' : Nat → Nat) (W : World) : Prop where
  a : QP B ls' mk' W
  b : RQ lo R (ents mk ls 256) W
  lb : B < lo
  bel : Below W0.heap.size W0 W
  b0 : W0.heap.size ≤ B
theorem pair_mk {W0 W : World} {B lo R : Nat} {ls ls' : Nat → List Nat} {mk mk' : Nat → Nat} (h : PlQ W0 B lo R ls mk W) {v : Value} {fi fr : FuncId} {ai ar : Array Value}
    (hi : Calls Try.prog fi ai W (QPE v B ls' mk' W)) (hr : ∀ W1, RQ lo R (ents mk ls 256) W1 → Calls Try.prog fr ar W1 (RE lo R v (ents mk' ls' 256) W1)) :
    ∃ M : World → Prop, Calls Try.prog fi ai W (fun e W1 => e = .returned v ∧ W.grownBy W1 (some B) ∧ M W1) ∧ ∀ W1, M W1 → Calls Try.prog fr ar W1 fun e W2 => e = .returned v ∧ PlE W0 B lo R W2 ∧ Fr (FP R W1) W1 W2 := by
  refine ⟨MidQ W0 B lo R ls ls' mk mk', hi.mono fun e W1 ⟨he, hg, hq⟩ => ⟨he, hg, hq, ?_, h.lb, ?_, h.b0⟩, fun W1 hm => (hr W1 hm.b).mono fun e W2 ⟨he, hq, hf, hf2⟩ => ⟨he, ⟨ls', mk', hm.a.fr hf (fun e => by have := hm.lb; omega), hq, hm.lb, Fr.below hm.bel hf hm.bel.size (fun i e => by have := hm.lb; have := hm.b0; omega), hm.b0⟩, hf2⟩⟩
  · exact h.b.keep (Fr.grown (S := fun k => k = B) hg (fun k e => by injection e with e; exact e.symm)) (fun k e => by have := h.lb; omega)
  · exact Fr.below h.bel (Fr.grown (S := fun k => k = B) hg (fun k e => by injection e with e; exact e.symm)) h.bel.size (fun i e => by have := h.b0; omega)
theorem qpe_same {W : World} {B : Nat} {ls : Nat → List Nat} {mk : Nat → Nat} {v : Value} {f : FuncId} {a : Array Value} (h : QP B ls mk W) (hc : Calls Try.prog f a W fun e w' => e = .returned v ∧ W = w') : Calls Try.prog f a W (QPE v B ls mk W) :=
  hc.mono fun e w' ⟨he, hw⟩ => by subst hw; exact ⟨he, grown_refl _ _, h⟩
theorem qpe_none {W : World} {B : Nat} {ls : Nat → List Nat} {mk : Nat → Nat} {v : Value} {f : FuncId} {a : Array Value} (h : QP B ls mk W) (hc : Calls Try.prog f a W fun e w' => e = .returned v ∧ W.grownBy w' none) : Calls Try.prog f a W (QPE v B ls mk W) :=
  hc.mono fun e w' ⟨he, hg⟩ => ⟨he, ⟨hg.os, hg.tape, hg.output, hg.size, fun k hk _ => hg.block k hk (by simp)⟩, h.kept hg (by simp)⟩
theorem re_same {W : World} {lo R : Nat} {l : List EnR} {v : Value} {f : FuncId} {a : Array Value} (h : RQ lo R l W) (hc : Calls Try.prog f a W fun e w' => e = .returned v ∧ W = w') : Calls Try.prog f a W (RE lo R v l W) :=
  hc.mono fun e w' ⟨he, hw⟩ => by subst hw; exact ⟨he, h, Fr.refl _ _, Fr.refl _ _⟩

section
variable {W0 W : World} {B lo R : Nat} {ls : Nat → List Nat} {mk : Nat → Nat}
theorem pl_add (h : PlQ W0 B lo R ls mk W) (t p m : Int) (f : Bool) : ∃ (z : Int) (M : World → Prop), Calls Try.prog 32 #[.pointer (some ⟨B, 0, none⟩), .int .i64 t, .int .i64 p, .int .i64 m, .bool f] W (fun e W1 => e = .returned (.int .i64 z) ∧ W.grownBy W1 (some B) ∧ M W1) ∧ ∀ W1, M W1 → Calls Try.prog 35 #[.pointer (some ⟨R, 0, none⟩), .int .i64 t, .int .i64 p, .int .i64 m, .bool f] W1 fun e W2 => e = .returned (.int .i64 z) ∧ PlE W0 B lo R W2 ∧ Fr (FP R W1) W1 W2 := by
  have hp := h.a.pi
  refine ⟨addE mk t p m, pair_mk h (qadd_any h.a t p m f) fun W1 hb => ?_⟩
  have := radd_any hb hp.len t p m f
  have e : adE t p m f (ents mk ls 256) = (addE mk t p m, ents (addM mk t p m) (addL ls mk t p m f) 256) := by
    by_cases hv : isThr t = true ∧ isThr p = true ∧ isMsk m = true
    · obtain ⟨h1, h2, h3⟩ := hv
      obtain ⟨a0, a1⟩ := (isThr_iff t).1 h1
      obtain ⟨b0, b1⟩ := (isThr_iff p).1 h2
      obtain ⟨c0, c1⟩ := (isMsk_iff m).1 h3
      obtain ⟨t, rfl⟩ : ∃ k : Nat, t = k := ⟨t.toNat, by omega⟩
      obtain ⟨p, rfl⟩ : ∃ k : Nat, p = k := ⟨p.toNat, by omega⟩
      obtain ⟨m, rfl⟩ : ∃ k : Nat, m = k := ⟨m.toNat, by omega⟩
      rw [adE, if_pos ⟨h1, h2, h3⟩]
      by_cases hx : mk t = 0
      · have e1 : addOk mk t p m = true := by simp [addOk, h1, h2, h3, hx]
        have e2 : addE mk t p m = 0 := by simp [addE, h1, h2, h3, hx]
        have e3 : addL ls mk t p m f = ins ls t p f := by rw [addL, if_pos e1]; rfl
        have e4 : addM mk t p m = upd mk t m := by rw [addM, if_pos e1]; rfl
        rw [e2, e3, e4, hp.no a0 a1 hx, if_neg (by decide), ← ents_ins (mk := mk) (mk' := upd mk t m) (ls := ls) (t := t) (p := p) (f := f) (fun q s hs => upd_other fun e => by subst e; exact (hp.mask0 s (by omega)).2 ⟨q, hs⟩ hx) 256 (by omega), upd_same]
      · have e1 : addOk mk t p m = false := by simp [addOk, hx]
        have e2 : addE mk t p m = 10 := by simp [addE, h1, h2, h3, hx]
        have e3 : addL ls mk t p m f = ls := by rw [addL, e1]; rfl
        have e4 : addM mk t p m = mk := by rw [addM, e1]; rfl
        obtain ⟨q, _, hq⟩ := hp.yes (by omega) hx
        obtain ⟨i, hi, _⟩ := hp.at_ hq
        rw [e2, e3, e4, hi, if_pos (by omega)]
    · have e0 : (isThr t && isThr p && isMsk m) = false := by
        cases h1 : isThr t <;> cases h2 : isThr p <;> cases h3 : isMsk m <;> simp_all
      have e1 : addOk mk t p m = false := by rw [addOk, e0]; rfl
      have e2 : addE mk t p m = 34 := by rw [addE, e0]; rfl
      have e3 : addL ls mk t p m f = ls := by rw [addL, e1]; rfl
      have e4 : addM mk t p m = mk := by rw [addM, e1]; rfl
      rw [adE, if_neg hv, e2, e3, e4]
  rw [e] at this
  exact this

theorem chk_cases (hp : PI ls mk) (t : Int) (v : Bool) : (chkM mk t v = 34 ∧ (isThr t = false ∨ v = false)) ∨ (chkM mk t v = 22 ∧ isThr t = true ∧ v = true ∧ mk t.toNat = 0) ∨ (v = true ∧ ∃ (k p : Nat), t = k ∧ k < 256 ∧ mk k ≠ 0 ∧ p < 256 ∧ k ∈ ls p) := by
  by_cases h1 : isThr t = false ∨ v = false
  · exact .inl ⟨by rw [chkM, if_pos h1], h1⟩
  · have h2 : isThr t = true ∧ v = true := by cases hh : isThr t <;> cases v <;> simp_all
    by_cases h3 : mk t.toNat = 0
    · exact .inr (.inl ⟨by rw [chkM, if_neg h1, if_pos h3], h2.1, h2.2, h3⟩)
    · have h4 := (isThr_iff t).1 h2.1
      obtain ⟨p, hp1, hp2⟩ := hp.yes (t := t.toNat) (by omega) h3
      exact .inr (.inr ⟨h2.2, t.toNat, p, by omega, by omega, h3, hp1, hp2⟩)

theorem pl_remove (h : PlQ W0 B lo R ls mk W) (t : Int) : ∃ (z : Int) (M : World → Prop), Calls Try.prog 36 #[.pointer (some ⟨B, 0, none⟩), .int .i64 t] W (fun e W1 => e = .returned (.int .i64 z) ∧ W.grownBy W1 (some B) ∧ M W1) ∧ ∀ W1, M W1 → Calls Try.prog 37 #[.pointer (some ⟨R, 0, none⟩), .int .i64 t] W1 fun e W2 => e = .returned (.int .i64 z) ∧ PlE W0 B lo R W2 ∧ Fr (FP R W1) W1 W2 := by
  have hp := h.a.pi
  rcases chk_cases hp t true with ⟨hc, ht⟩ | ⟨hc, ht, _, h0⟩ | ⟨_, k, p, rfl, hk, hm, _, hkp⟩
  · refine ⟨34, pair_mk h (qpe_same h.a (remove_err h.a t 34 hc (by decide))) fun W1 hb => ?_⟩
    have := rremove_any hb hp.len t
    rw [rmE, fnd_bad (ht.resolve_right (by simp)), if_neg (by decide)] at this
    exact this
  · refine ⟨22, pair_mk h (qpe_same h.a (remove_err h.a t 22 hc (by decide))) fun W1 hb => ?_⟩
    have := rremove_any hb hp.len t
    rw [rmE, hp.fnd_no ht h0, if_neg (by decide)] at this
    exact this
  · refine ⟨0, pair_mk h (remove_ok h.a k hk hm) fun W1 hb => ?_⟩
    have := rremove_any hb hp.len k
    obtain ⟨i, hi, hx⟩ := hp.fnd_yes hkp
    rw [rmE, hi, if_pos rfl, show ((i : Int), (0 : Int)).1.toNat = i from Int.toNat_natCast i, hp.del hx (mk' := upd mk k 0) (fun y hy => upd_other hy)] at this
    exact this

theorem pl_setmask (h : PlQ W0 B lo R ls mk W) (t m : Int) : ∃ (z : Int) (M : World → Prop), Calls Try.prog 40 #[.pointer (some ⟨B, 0, none⟩), .int .i64 t, .int .i64 m] W (fun e W1 => e = .returned (.int .i64 z) ∧ W.grownBy W1 (some B) ∧ M W1) ∧ ∀ W1, M W1 → Calls Try.prog 41 #[.pointer (some ⟨R, 0, none⟩), .int .i64 t, .int .i64 m] W1 fun e W2 => e = .returned (.int .i64 z) ∧ PlE W0 B lo R W2 ∧ Fr (FP R W1) W1 W2 := by
  have hp := h.a.pi
  rcases chk_cases hp t (isMsk m) with ⟨hc, ht⟩ | ⟨hc, ht, hm, h0⟩ | ⟨hm, k, p, rfl, hk, hmk, _, hkp⟩
  · refine ⟨34, pair_mk h (qpe_same h.a (setmask_err h.a t m 34 hc (by decide))) fun W1 hb => ?_⟩
    have := rsetmask_any hb hp.len t m
    have e : smE t m (ents mk ls 256) = (34, ents mk ls 256) := by
      cases hm : isMsk m
      · rw [smE, if_neg (by rw [hm]; simp)]
      · rw [smE, if_pos hm, fnd_bad (ht.resolve_right (by rw [hm]; simp)), if_neg (by decide)]
    rw [e] at this
    exact this
  · refine ⟨22, pair_mk h (qpe_same h.a (setmask_err h.a t m 22 hc (by decide))) fun W1 hb => ?_⟩
    have := rsetmask_any hb hp.len t m
    rw [smE, if_pos hm, hp.fnd_no ht h0, if_neg (by decide)] at this
    exact this
  · obtain ⟨c0, c1⟩ := (isMsk_iff m).1 hm
    obtain ⟨m, rfl⟩ : ∃ k : Nat, m = k := ⟨m.toNat, by omega⟩
    refine ⟨0, pair_mk h (setmask_ok h.a k m hk (by omega) (by omega) hmk) fun W1 hb => ?_⟩
    have := rsetmask_any hb hp.len k m
    obtain ⟨i, hi, hx⟩ := hp.fnd_yes hkp
    have e : smE k m (ents mk ls 256) = (0, ents (upd mk k m) ls 256) := by
      rw [smE, if_pos hm, hi, if_pos rfl]
      show (match (ents mk ls 256)[((i : Int)).toNat]? with | some x => ((0 : Int), (ents mk ls 256).set ((i : Int)).toNat { x with m := (m : Int) }) | none => (0, ents mk ls 256)) = _
      rw [Int.toNat_natCast, hx]
      show (0, (ents mk ls 256).set i { mkE mk p k with m := (m : Int) }) = _
      rw [set_map m (hp.nodT 256) hx, ← ents_upd mk ls k m 256]
      rfl
    rw [e] at this
    exact this

theorem pl_prio (h : PlQ W0 B lo R ls mk W) (t : Int) : ∃ (a z : Int) (M : World → Prop), Calls Try.prog 46 #[.pointer (some ⟨B, 0, none⟩), .int .i64 t] W (fun e W1 => e = .returned (.tuple #[.int .i64 a, .int .i64 z]) ∧ W.grownBy W1 (some B) ∧ M W1) ∧ ∀ W1, M W1 → Calls Try.prog 47 #[.pointer (some ⟨R, 0, none⟩), .int .i64 t] W1 fun e W2 => e = .returned (.tuple #[.int .i64 a, .int .i64 z]) ∧ PlE W0 B lo R W2 ∧ Fr (FP R W1) W1 W2 := by
  have hp := h.a.pi
  rcases chk_cases hp t true with ⟨hc, ht⟩ | ⟨hc, ht, _, h0⟩ | ⟨_, k, p, rfl, hk, hm, _, hkp⟩
  · refine ⟨0, 34, pair_mk h (qpe_same h.a (prio_err h.a t 34 hc (by decide))) fun W1 hb => re_same hb ?_⟩
    have := rprio_any hb hp.len t
    rw [prE, fnd_bad (ht.resolve_right (by simp)), if_neg (by decide)] at this
    exact this
  · refine ⟨0, 22, pair_mk h (qpe_same h.a (prio_err h.a t 22 hc (by decide))) fun W1 hb => re_same hb ?_⟩
    have := rprio_any hb hp.len t
    rw [prE, hp.fnd_no ht h0, if_neg (by decide)] at this
    exact this
  · refine ⟨p, 0, pair_mk h (qpe_same h.a (prio_ok h.a k p hk hm hkp)) fun W1 hb => re_same hb ?_⟩
    have := rprio_any hb hp.len k
    obtain ⟨i, hi, hx⟩ := hp.fnd_yes hkp
    have e : prE k (ents mk ls 256) = ((p : Int), 0) := by
      rw [prE, hi, if_pos rfl]
      show (match (ents mk ls 256)[((i : Int)).toNat]? with | some x => (x.p, (0 : Int)) | none => (0, 0)) = _
      rw [Int.toNat_natCast, hx]; rfl
    rw [e] at this
    exact this

theorem pl_setprio (h : PlQ W0 B lo R ls mk W) (t p : Int) (f : Bool) : ∃ (z : Int) (M : World → Prop), Calls Try.prog 38 #[.pointer (some ⟨B, 0, none⟩), .int .i64 t, .int .i64 p, .bool f] W (fun e W1 => e = .returned (.int .i64 z) ∧ W.grownBy W1 (some B) ∧ M W1) ∧ ∀ W1, M W1 → Calls Try.prog 39 #[.pointer (some ⟨R, 0, none⟩), .int .i64 t, .int .i64 p, .bool f] W1 fun e W2 => e = .returned (.int .i64 z) ∧ PlE W0 B lo R W2 ∧ Fr (FP R W1) W1 W2 := by
  have hp := h.a.pi
  rcases chk_cases hp t (isThr p) with ⟨hc, ht⟩ | ⟨hc, ht, hm, h0⟩ | ⟨hm, k, p0, rfl, hk, hmk, _, hkp⟩
  · refine ⟨34, pair_mk h (qpe_same h.a (setprio_err h.a t p f 34 hc (by decide))) fun W1 hb => ?_⟩
    have := rsetprio_any hb hp.len t p f
    have e : spE t p f (ents mk ls 256) = (34, ents mk ls 256) := by
      cases hm : isThr p
      · rw [spE, if_neg (by rw [hm]; simp)]
      · rw [spE, if_pos hm, fnd_bad (ht.resolve_right (by rw [hm]; simp)), if_neg (by decide)]
    rw [e] at this
    exact this
  · refine ⟨22, pair_mk h (qpe_same h.a (setprio_err h.a t p f 22 hc (by decide))) fun W1 hb => ?_⟩
    have := rsetprio_any hb hp.len t p f
    rw [spE, if_pos hm, hp.fnd_no ht h0, if_neg (by decide)] at this
    exact this
  · obtain ⟨c0, c1⟩ := (isThr_iff p).1 hm
    obtain ⟨p, rfl⟩ : ∃ k : Nat, p = k := ⟨p.toNat, by omega⟩
    obtain ⟨i, hi, hx⟩ := hp.fnd_yes hkp
    have e0 : spE k p f (ents mk ls 256) = if (p0 : Int) = p then (0, ents mk ls 256) else (0, insE { mkE mk p0 k with p := (p : Int) } f ((ents mk ls 256).eraseIdx i)) := by
      rw [spE, if_pos hm, hi, if_pos rfl]
      show (match (ents mk ls 256)[((i : Int)).toNat]? with | some x => if x.p = (p : Int) then ((0 : Int), ents mk ls 256) else (0, insE { x with p := (p : Int) } f ((ents mk ls 256).eraseIdx ((i : Int)).toNat)) | none => (0, ents mk ls 256)) = _
      rw [Int.toNat_natCast, hx]; rfl
    by_cases hpp : p = p0
    · subst hpp
      refine ⟨0, pair_mk h (qpe_same h.a (setprio_same h.a k p f hk (by omega) hmk hkp)) fun W1 hb => ?_⟩
      have := rsetprio_any hb hp.len k p f
      rw [e0, if_pos rfl] at this
      exact this
    · refine ⟨0, pair_mk h (setprio_ok h.a k p p0 f hk (by omega) hmk hkp hpp) fun W1 hb => ?_⟩
      have := rsetprio_any hb hp.len k p f
      have e2 := ents_ins (mk := mk) (mk' := mk) (ls := Proofs.Ytbjpaemldnoinaa.del ls k) (t := k) (p := p) (f := f) (fun _ _ _ => rfl) 256 (by omega)
      rw [e0, if_neg (by omega), hp.del hx (mk' := mk) (fun _ _ => rfl), show ({ mkE mk p0 k with p := (p : Int) } : EnR) = ⟨k, p, mk k⟩ from rfl, e2] at this
      exact this

theorem firE_none {p : Int} : ∀ {l : List EnR} {k : Nat}, (∀ x ∈ l, x.p ≠ p) → firE p l k = none
  | [], k, _ => rfl
  | x :: r, k, h => by rw [firE, if_neg (h x (by simp)), firE_none fun y hy => h y (by simp [hy])]
theorem firE_app {p : Int} : ∀ {A : List EnR} (B : List EnR) (k : Nat), (∀ x ∈ A, x.p ≠ p) → firE p (A ++ B) k = firE p B (k + A.length)
  | [], B, k, _ => rfl
  | x :: A, B, k, h => by
    rw [List.cons_append, firE, if_neg (h x (by simp)), firE_app B (k + 1) fun y hy => h y (by simp [hy]), List.length_cons]
    congr 1; omega
theorem ents_fir {p t : Nat} {r : List Nat} (hl : ls p = t :: r) : ∀ n, p < n → ∃ i, (∀ k, firE p (ents mk ls n) k = some (k + i, mkE mk p t)) ∧ (ents mk ls n)[i]? = some (mkE mk p t)
  | 0, h => absurd h (by omega)
  | n + 1, h => by
    by_cases e : p = n
    · subst e
      refine ⟨0, fun k => ?_, ?_⟩
      · rw [ents, hl, List.map_cons, List.cons_append, firE, if_pos (show (mkE mk p t).p = (p : Int) from rfl)]; rfl
      · rw [ents, hl]; rfl
    · obtain ⟨i, h1, h2⟩ := ents_fir hl n (by omega)
      refine ⟨(ls n).length + i, fun k => ?_, ?_⟩
      · rw [ents, firE_app _ _ (fun x hx => by obtain ⟨s, _, rfl⟩ := List.mem_map.1 hx; show (n : Int) ≠ p; omega), h1, List.length_map, Nat.add_assoc]
      · rw [ents, List.getElem?_append_right (by simp), List.length_map, show (ls n).length + i - (ls n).length = i from by omega]; exact h2
theorem rot_ins (hp : PI ls mk) {p t : Nat} {r : List Nat} (hl : ls p = t :: r) : ins (Proofs.Ytbjpaemldnoinaa.del ls t) t p false = rotL ls p := by
  funext i
  rw [rotL, hl]
  by_cases e : i = p
  · rw [e, ins_same, if_neg (by simp), if_pos rfl]
    show (ls p).erase t ++ [t] = r ++ [t]
    rw [hl, List.erase_cons_head]
  · rw [ins_other e, if_neg e]
    exact List.erase_of_not_mem fun hx => e (hp.uniq p i t (by rw [hl]; simp) hx)
theorem pl_rotate (h : PlQ W0 B lo R ls mk W) (p : Int) : ∃ (z : Int) (M : World → Prop), Calls Try.prog 34 #[.pointer (some ⟨B, 0, none⟩), .int .i64 p] W (fun e W1 => e = .returned (.int .i64 z) ∧ W.grownBy W1 (some B) ∧ M W1) ∧ ∀ W1, M W1 → Calls Try.prog 42 #[.pointer (some ⟨R, 0, none⟩), .int .i64 p] W1 fun e W2 => e = .returned (.int .i64 z) ∧ PlE W0 B lo R W2 ∧ Fr (FP R W1) W1 W2 := by
  have hp := h.a.pi
  cases hb : isThr p
  · refine ⟨34, pair_mk h (qpe_same h.a (rotate_bad p hb)) fun W1 hq => ?_⟩
    have := rrotate_any hq hp.len p
    rw [roE, if_neg (by rw [hb]; simp)] at this
    exact this
  · obtain ⟨c0, c1⟩ := (isThr_iff p).1 hb
    obtain ⟨p, rfl⟩ : ∃ k : Nat, p = k := ⟨p.toNat, by omega⟩
    cases hl : ls p with
    | nil =>
      refine ⟨22, pair_mk h (qpe_same h.a (rotate_none h.a p (by omega) hl)) fun W1 hq => ?_⟩
      have := rrotate_any hq hp.len p
      rw [roE, if_pos hb, firE_none (fun x hx e => by
        obtain ⟨q, s, _, hs, rfl⟩ := ents_mem.1 hx
        have : q = p := by have : (q : Int) = p := e; omega
        subst this
        rw [hl] at hs; cases hs)] at this
      exact this
    | cons t r =>
      refine ⟨0, pair_mk h (rotate_ok h.a p (by omega) (by rw [hl]; simp)) fun W1 hq => ?_⟩
      have := rrotate_any hq hp.len p
      obtain ⟨i, h1, h2⟩ := ents_fir (mk := mk) hl 256 (by omega)
      have e2 := ents_ins (mk := mk) (mk' := mk) (ls := Proofs.Ytbjpaemldnoinaa.del ls t) (t := t) (p := p) (f := false) (fun _ _ _ => rfl) 256 (by omega)
      have e : roE p (ents mk ls 256) = (0, ents mk (rotL ls p) 256) := by
        rw [roE, if_pos hb, h1 0]
        show (0, insE (mkE mk p t) false ((ents mk ls 256).eraseIdx (0 + i))) = _
        rw [Nat.zero_add, hp.del h2 (mk' := mk) (fun _ _ => rfl), show mkE mk p t = (⟨t, p, mk t⟩ : EnR) from rfl, e2, rot_ins hp hl]
      rw [e] at this
      exact this

theorem bitE_find {b : Int} : ∀ (l : List EnR) (k : Nat), (bitE b l k = -1 ∧ l.find? (fun x => decide (x.m / b % 2 = 1)) = none) ∨ ∃ (i : Nat) (x : EnR), bitE b l k = ((k + i : Nat) : Int) ∧ l[i]? = some x ∧ l.find? (fun x => decide (x.m / b % 2 = 1)) = some x
  | [], k => .inl ⟨rfl, rfl⟩
  | x :: r, k => by
    rw [bitE]
    by_cases e : x.m / b % 2 = 1
    · rw [if_pos e]
      exact .inr ⟨0, x, by simp, rfl, by rw [List.find?_cons_of_pos (by simpa using e)]⟩
    · rw [if_neg e, List.find?_cons_of_neg (by simpa using e)]
      rcases bitE_find r (k + 1) with h | ⟨i, y, h1, h2, h3⟩
      · exact .inl h
      · exact .inr ⟨i + 1, y, by rw [h1]; congr 1; omega, by simpa using h2, h3⟩
theorem find_ents (mk : Nat → Nat) (ls : Nat → List Nat) (c : Nat) : ∀ n, ((ents mk ls n).find? fun x => decide (x.m / 2 ^ c % 2 = 1)).map (·.t) = ((orderN n ls).find? (okOn mk c)).map fun (t : Nat) => (t : Int)
  | 0 => rfl
  | n + 1 => by
    rw [ents, orderN, List.find?_append, List.find?_append, Option.map_or, Option.map_or, find_ents mk ls c n, List.find?_map, Option.map_map]
    congr 2
    refine congrArg (fun f => List.find? f (ls n)) (funext fun s => ?_)
    show decide (((mk s : Nat) : Int) / 2 ^ c % 2 = 1) = (mk s / 2 ^ c % 2 == 1)
    have e : ((mk s : Nat) : Int) / 2 ^ c % 2 = ((mk s / 2 ^ c % 2 : Nat) : Int) := by push_cast; rfl
    rw [e]
    generalize mk s / 2 ^ c % 2 = n at e ⊢
    exact Bool.eq_iff_iff.2 (by rw [decide_eq_true_iff, beq_iff_eq]; omega)
/-- Who is best, by both. -/
theorem best_cases (hp : PI ls mk) (c : Int) : (isPro c = false ∧ bstE c (ents mk ls 256) = (0, 34)) ∨ (isPro c = true ∧ bestOf mk c.toNat (order ls) = none ∧ bstE c (ents mk ls 256) = (0, 22)) ∨
    (isPro c = true ∧ ∃ (t p i : Nat), bestOf mk c.toNat (order ls) = some t ∧ bstE c (ents mk ls 256) = ((i : Int), 0) ∧ (ents mk ls 256)[i]? = some (mkE mk p t)) := by
  cases hb : isPro c
  · refine .inl ⟨rfl, ?_⟩
    rw [bstE, if_pos]
    by_cases h : c < 0
    · exact .inl h
    · by_cases h2 : 7 < c
      · exact .inr h2
      · exact absurd ((isPro_iff c).2 ⟨by omega, by omega⟩) (by rw [hb]; simp)
  · obtain ⟨c0, c1⟩ := (isPro_iff c).1 hb
    obtain ⟨c, rfl⟩ : ∃ k : Nat, c = k := ⟨c.toNat, by omega⟩
    rw [bstE, if_neg (by omega), Int.toNat_natCast]
    have hf := find_ents mk ls c 256
    rcases bitE_find (b := 2 ^ c) (ents mk ls 256) 0 with ⟨h1, h2⟩ | ⟨i, x, h1, h2, h3⟩
    · rw [h2] at hf
      refine .inr (.inl ⟨rfl, ?_, by rw [h1, if_pos (by decide)]⟩)
      cases hq : (orderN 256 ls).find? (okOn mk c) with
      | none => exact hq
      | some t => rw [hq] at hf; cases hf
    · rw [h3] at hf
      obtain ⟨p, t, _, ht, rfl⟩ := ents_mem.1 (List.mem_of_getElem? h2)
      refine .inr (.inr ⟨rfl, t, p, i, ?_, by rw [h1, if_neg (by omega), Nat.zero_add], h2⟩)
      cases hq : (orderN 256 ls).find? (okOn mk c) with
      | none => rw [hq] at hf; cases hf
      | some s =>
        rw [hq] at hf
        have : (t : Int) = s := by injection hf
        rw [bestOf, order, hq, show s = t from by omega]
theorem bestI_eq {c : Int} {o : Option Nat} (hb : isPro c = true) (h : bestOf mk c.toNat (order ls) = o) : bestI ls mk c = bestV o := by rw [bestI, if_pos hb, h]
theorem pl_best (h : PlQ W0 B lo R ls mk W) (c : Int) : ∃ (a z : Int) (M : World → Prop), Calls Try.prog 33 #[.pointer (some ⟨B, 0, none⟩), .int .i64 c] W (fun e W1 => e = .returned (.tuple #[.int .i64 a, .int .i64 z]) ∧ W.grownBy W1 (some B) ∧ M W1) ∧ ∀ W1, M W1 → Calls Try.prog 45 #[.pointer (some ⟨R, 0, none⟩), .int .i64 c] W1 fun e W2 => e = .returned (.tuple #[.int .i64 a, .int .i64 z]) ∧ PlE W0 B lo R W2 ∧ Fr (FP R W1) W1 W2 := by
  have hp := h.a.pi
  have hi := best_any h.a c
  rcases best_cases hp c with ⟨hb, h1⟩ | ⟨hb, h1, h2⟩ | ⟨hb, t, p, i, h1, h2, h3⟩
  · rw [bestI, if_neg (by rw [hb]; simp)] at hi
    refine ⟨0, 34, pair_mk h (qpe_none h.a hi) fun W1 hq => re_same hq ?_⟩
    have := rBest_any hq hp.len hp.msk c
    rw [btE, h1, if_neg (by decide)] at this
    exact this
  · rw [bestI_eq hb h1] at hi
    refine ⟨0, 22, pair_mk h (qpe_none h.a hi) fun W1 hq => re_same hq ?_⟩
    have := rBest_any hq hp.len hp.msk c
    rw [btE, h2, if_neg (by decide)] at this
    exact this
  · rw [bestI_eq hb h1] at hi
    refine ⟨t, 0, pair_mk h (qpe_none h.a hi) fun W1 hq => re_same hq ?_⟩
    have := rBest_any hq hp.len hp.msk c
    have e : btE c (ents mk ls 256) = ((t : Int), 0) := by
      rw [btE, h2, if_pos rfl]
      show (match (ents mk ls 256)[((i : Int)).toNat]? with | some x => (x.t, (0 : Int)) | none => (0, 0)) = _
      rw [Int.toNat_natCast, h3]; rfl
    rw [e] at this
    exact this
theorem pl_take (h : PlQ W0 B lo R ls mk W) (c : Int) : ∃ (a z : Int) (M : World → Prop), Calls Try.prog 43 #[.pointer (some ⟨B, 0, none⟩), .int .i64 c] W (fun e W1 => e = .returned (.tuple #[.int .i64 a, .int .i64 z]) ∧ W.grownBy W1 (some B) ∧ M W1) ∧ ∀ W1, M W1 → Calls Try.prog 44 #[.pointer (some ⟨R, 0, none⟩), .int .i64 c] W1 fun e W2 => e = .returned (.tuple #[.int .i64 a, .int .i64 z]) ∧ PlE W0 B lo R W2 ∧ Fr (FP R W1) W1 W2 := by
  have hp := h.a.pi
  rcases best_cases hp c with ⟨hb, h1⟩ | ⟨hb, h1, h2⟩ | ⟨hb, t, p, i, h1, h2, h3⟩
  · refine ⟨0, 34, pair_mk h (qpe_none h.a (take_err h.a c 34 (by rw [bestI, if_neg (by rw [hb]; simp)]) (by decide))) fun W1 hq => ?_⟩
    have := rtake2_any hq hp.len hp.msk c
    rw [btE, tkE, h1, if_neg (by decide), if_neg (by decide)] at this
    exact this
  · refine ⟨0, 22, pair_mk h (qpe_none h.a (take_err h.a c 22 (bestI_eq hb h1) (by decide))) fun W1 hq => ?_⟩
    have := rtake2_any hq hp.len hp.msk c
    rw [btE, tkE, h2, if_neg (by decide), if_neg (by decide)] at this
    exact this
  · refine ⟨t, 0, pair_mk h (take_ok h.a c hb t h1) fun W1 hq => ?_⟩
    have := rtake2_any hq hp.len hp.msk c
    have e : btE c (ents mk ls 256) = ((t : Int), 0) := by
      rw [btE, h2, if_pos rfl]
      show (match (ents mk ls 256)[((i : Int)).toNat]? with | some x => (x.t, (0 : Int)) | none => (0, 0)) = _
      rw [Int.toNat_natCast, h3]; rfl
    have e2 : tkE c (ents mk ls 256) = ents (upd mk t 0) (Proofs.Ytbjpaemldnoinaa.del ls t) 256 := by
      rw [tkE, h2, if_pos rfl, show ((i : Int), (0 : Int)).1.toNat = i from Int.toNat_natCast i, hp.del h3 (mk' := upd mk t 0) (fun y hy => upd_other hy)]
    rw [e, e2] at this
    exact this
end
end Go.Proofs.Ytbjpaemldnoinaa
