/- Interrupts: what each call answers and leaves, whatever is called. -/
import Derived.Test.YtbnchmhhhildnaaXzb
namespace Go.Proofs.Ytbnchmhhhildnaa
open Go.RowKit Go.Maps
set_option linter.unusedVariables false

/-- The line of a number. -/
def lnAt (s : IS) (n : Int) : Option IL := if 0 ≤ n then s.ls[n.toNat]? else none
theorem lnAt_some {s : IS} {n : Int} {l : IL} (h : lnAt s n = some l) : ∃ m : Nat, n = m ∧ s.ls[m]? = some l := by
  unfold lnAt at h
  split at h
  · exact ⟨n.toNat, by omega, h⟩
  · cases h
theorem lnAt_none {s : IS} {n : Int} (h : lnAt s n = none) : ckL s.ls.length n = 34 := by
  unfold lnAt at h
  unfold ckL
  split at h
  · rw [if_neg]
    have := List.getElem?_eq_none_iff.1 h
    omega
  · rw [if_neg (by omega)]
/-- Attach. -/
def stA (s : IS) (n th k c p d v : Int) (fi : Bool) : IS × Int × Int :=
  match lnAt s n with
  | none => (s, 0, 34)
  | some l => if ckN th k c p d = 0 then (if s.att.length < 100 then (attS s n.toNat l fi ⟨n, th, k, c, p, d, v⟩, (lf s.att : Nat), 0) else (s, 0, 18)) else (s, 0, ckN th k c p d)
theorem ckN_wake {th k c p d : Int} (h : ckN th k c p d = 0) (hk : k = 4) : 0 ≤ c ∧ c < 256 := by
  unfold ckN at h
  subst hk
  by_cases hc : isTh c = false
  · simp [hc] at h
  · exact (isTh_iff c).1 (by simpa using hc)
theorem stA_ok {s : IS} (h : IOk s) (n th k c p d v : Int) (fi : Bool) : IOk (stA s n th k c p d v fi).1 := by
  unfold stA
  split
  · exact h
  · rename_i l hl
    split
    · rename_i hz
      split
      · rename_i hc
        obtain ⟨m, rfl, hm⟩ := lnAt_some hl
        rw [Int.toNat_natCast]
        exact h.attNew hm fi rfl (fun e => ckN_wake hz e) hc
      · exact h
    · exact h
theorem att_ce {W : World} {O : Nat → Prop} {N B : Nat} {s : IS} (h : CE O N W B s) (hk : IOk s) (hN : N ≤ W.heap.size) (n th k c p d v : Int) (fi : Bool) :
    Calls Try.prog 24 #[.pointer (some ⟨B, 0, none⟩), .int .i64 n, .int .i64 th, evV k c p d v, .bool fi] W fun e w' => e = .returned (.tuple #[.int .i64 (stA s n th k c p d v fi).2.1, .int .i64 (stA s n th k c p d v fi).2.2]) ∧ CE O N w' B (stA s n th k c p d v fi).1 ∧ Fr (Ft O N) W w' := by
  unfold stA
  cases hl : lnAt s n with
  | none =>
    obtain ⟨y, O', h1, h2⟩ := h
    have hz := lnAt_none hl
    refine (attach_bad (z := 34) (by decide) fun W2 f => ?_).mono ?_
    · have := check_any (h1.no f) hk.n0 n
      rw [hz] at this
      exact this
    · rintro e w' ⟨rfl, hf⟩
      exact ⟨rfl, ⟨y, O', h1.no hf, h2⟩, hf.any⟩
  | some l =>
    obtain ⟨m, rfl, hm⟩ := lnAt_some hl
    simp only []
    by_cases hz : ckN th k c p d = 0
    · rw [if_pos hz]
      by_cases hc : s.att.length < 100
      · rw [if_pos hc, Int.toNat_natCast]
        exact attach_ce h hk hN hm fi hz hc
      · rw [if_neg hc]
        obtain ⟨y, O', h1, h2⟩ := h
        refine (attach_full h1 hk hm fi hz (by have := hk.cnt; omega)).mono ?_
        rintro e w' ⟨rfl, hf⟩
        exact ⟨rfl, ⟨y, O', h1.no hf, h2⟩, hf.any⟩
    · rw [if_neg hz]
      obtain ⟨y, O', h1, h2⟩ := h
      refine (attach_err h1 hk hm fi rfl hz).mono ?_
      rintro e w' ⟨rfl, hf⟩
      exact ⟨rfl, ⟨y, O', h1.no hf, h2⟩, hf.any⟩
/-- Detach. -/
noncomputable def stD (s : IS) (x : Int) : IS × Int :=
  match get s.att x with
  | none => (s, 3)
  | some t => match s.ls[t.l.toNat]? with
    | some l => (remS s x t.l.toNat l, 0)
    | none => (s, 0)
theorem line_of {s : IS} (h : IOk s) {x : Int} {t : Tm} (hg : get s.att x = some t) : ∃ (n : Nat) (l : IL), t.l = n ∧ s.ls[n]? = some l ∧ stD s x = (remS s x n l, 0) := by
  obtain ⟨h1, h2, _⟩ := h.lin x t hg
  obtain ⟨n, hn⟩ : ∃ n : Nat, t.l = n := ⟨t.l.toNat, by omega⟩
  have hl := List.getElem?_eq_getElem (show n < s.ls.length by omega)
  refine ⟨n, _, hn, hl, ?_⟩
  unfold stD
  rw [hg]
  simp only []
  rw [hn, Int.toNat_natCast, hl]
theorem stD_ok {s : IS} (h : IOk s) (x : Int) : IOk (stD s x).1 := by
  cases hg : get s.att x with
  | none => unfold stD; rw [hg]; exact h
  | some t =>
    obtain ⟨n, l, h1, h2, h3⟩ := line_of h hg
    rw [h3]; exact h.rem hg h1 h2
set_option maxRecDepth 100000 in
theorem det_ce {W : World} {O : Nat → Prop} {N B : Nat} {s : IS} (h : CE O N W B s) (hk : IOk s) (hN : N ≤ W.heap.size) {x : Int} (hx : isW x) :
    Calls Try.prog 26 #[.pointer (some ⟨B, 0, none⟩), .int .i64 x] W fun e w' => e = .returned (.int .i64 (stD s x).2) ∧ CE O N w' B (stD s x).1 ∧ Fr (Ft O N) W w' := by
  obtain ⟨y, O', h1, h2⟩ := h
  have HM := Lib.hid (ismade_ok h1 hk.n0)
  have HA := Lib.hid (isatt_ok h1 hx)
  cases hg : get s.att x with
  | none =>
    have e1 : stD s x = (s, 3) := by unfold stD; rw [hg]
    rw [e1]
    rw [hg] at HA
    have HK : Hid (∀ w', Fr No W w' → CE O N w' B s) := fun w' f => ⟨y, O', h1.no f, h2⟩
    clear hg e1 h1 h2 hk hN
    go_enter Try.func26, Try.ntmps26
    go_wp2_with (first
      | (go_at_call 50; refine HM.out.mono ?_; rintro e w2 ⟨rfl, f2⟩; subst f2)
      | (go_at_call 52; refine HA.out.mono ?_; rintro e w2 ⟨rfl, f2⟩; have F2 := Lib.hid f2; clear f2))
    go_ret
    exact ⟨rfl, HK.out _ F2.out, F2.out.any⟩
  | some t =>
    obtain ⟨n, l, hn, hl, e1⟩ := line_of hk hg
    rw [e1]
    rw [hg] at HA
    have HR := Lib.hid (fun w' (f : Fr No W w') => remove_ok (h1.no f) hk hg hn hl)
    have HK : Hid (∀ w2 w' y', Fr No W w2 → CM w' (Gr O' w2 w') B y' (remS s x n l) → CE O N w' B (remS s x n l)) := fun w2 w' y' f hc => CE.step (Nat.le_trans hN f.size) h2 hc
    have HF : Hid (∀ w2 w', Fr O' w2 w' → Fr (Ft O N) w2 w') := fun w2 w' f => f.mono (fun k _ ok => h2 k ok)
    clear hg e1 h1 h2 hk hN hn hl
    go_enter Try.func26, Try.ntmps26
    go_wp2_with (first
      | (go_at_call 50; refine HM.out.mono ?_; rintro e w2 ⟨rfl, f2⟩; subst f2)
      | (go_at_call 52; refine HA.out.mono ?_; rintro e w2 ⟨rfl, f2⟩; have F2 := Lib.hid f2; clear f2)
      | (go_at_call 53; refine (HR.out _ F2.out).mono ?_; rintro e w3 ⟨rfl, ⟨y3, q3⟩, f3⟩; have Q3 := Lib.hid q3; have F3 := Lib.hid f3; clear f3 q3))
    go_ret
    exact ⟨rfl, HK.out _ _ _ F2.out Q3.out, F2.out.any.trans (HF.out _ _ F3.out)⟩
/-- Mask. -/
noncomputable def stM (s : IS) (n x : Int) : IS × Int × Int :=
  if fdE s n x = 0 then (if s.cn (n, x) = 1000 then (s, 0, 18) else (setCn s (n, x) (s.cn (n, x) + 1), sumI (setCn s (n, x) (s.cn (n, x) + 1)) n, 0)) else (s, 0, fdE s n x)
/-- Unmask. -/
noncomputable def stU (s : IS) (n x : Int) : IS × Int × Int :=
  if fdE s n x = 0 then (if s.cn (n, x) = 0 then (s, 0, 35) else (setCn s (n, x) (s.cn (n, x) - 1), sumI (setCn s (n, x) (s.cn (n, x) - 1)) n, 0)) else (s, 0, fdE s n x)
theorem stM_ok {s : IS} (h : IOk s) (n x : Int) : IOk (stM s n x).1 := by
  have h0 := h.c0 (n, x)
  have h1 := h.c1 (n, x)
  unfold stM
  split
  · rename_i hf
    split
    · exact h
    · exact h.setCn hf (by omega) (by omega)
  · exact h
theorem stU_ok {s : IS} (h : IOk s) (n x : Int) : IOk (stU s n x).1 := by
  have h0 := h.c0 (n, x)
  have h1 := h.c1 (n, x)
  unfold stU
  split
  · rename_i hf
    split
    · exact h
    · exact h.setCn hf (by omega) (by omega)
  · exact h
theorem fdK_err {s : IS} {n x : Int} (h : fdE s n x ≠ 0) : fdK s n x = kE 0 0 := by unfold fdK; rw [if_neg h]
theorem mask_ce {W : World} {O : Nat → Prop} {N B : Nat} {s : IS} (h : CE O N W B s) (hk : IOk s) (n x : Int) :
    Calls Try.prog 21 #[.pointer (some ⟨B, 0, none⟩), .int .i64 n, .int .i64 x] W fun e w' => e = .returned (.tuple #[.int .i64 (stM s n x).2.1, .int .i64 (stM s n x).2.2]) ∧ CE O N w' B (stM s n x).1 ∧ Fr (Ft O N) W w' := by
  obtain ⟨y, O', h1, h2⟩ := h
  unfold stM
  by_cases hf : fdE s n x = 0
  · rw [if_pos hf]
    by_cases hb : s.cn (n, x) = 1000
    · rw [if_pos hb]
      refine (mask_full h1 hk hf hb).mono ?_
      rintro e w' ⟨rfl, f⟩
      exact ⟨rfl, ⟨y, O', h1.no f, h2⟩, f.any⟩
    · rw [if_neg hb]
      refine (mask_ok h1 hk hf (by have := hk.c1 (n, x); omega)).mono ?_
      rintro e w' ⟨rfl, hc, f⟩
      exact ⟨rfl, ⟨y, O', hc, h2⟩, f.mono (fun k _ ok => h2 k ok)⟩
  · rw [if_neg hf]
    have hc := find_any h1 hk n x
    rw [fdK_err hf] at hc
    refine (mask_err hf hc).mono ?_
    rintro e w' ⟨rfl, f⟩
    exact ⟨rfl, ⟨y, O', h1.no f, h2⟩, f.any⟩
theorem unmask_ce {W : World} {O : Nat → Prop} {N B : Nat} {s : IS} (h : CE O N W B s) (hk : IOk s) (n x : Int) :
    Calls Try.prog 23 #[.pointer (some ⟨B, 0, none⟩), .int .i64 n, .int .i64 x] W fun e w' => e = .returned (.tuple #[.int .i64 (stU s n x).2.1, .int .i64 (stU s n x).2.2]) ∧ CE O N w' B (stU s n x).1 ∧ Fr (Ft O N) W w' := by
  obtain ⟨y, O', h1, h2⟩ := h
  unfold stU
  by_cases hf : fdE s n x = 0
  · rw [if_pos hf]
    by_cases hb : s.cn (n, x) = 0
    · rw [if_pos hb]
      refine (unmask_zero h1 hk hf hb).mono ?_
      rintro e w' ⟨rfl, f⟩
      exact ⟨rfl, ⟨y, O', h1.no f, h2⟩, f.any⟩
    · rw [if_neg hb]
      refine (unmask_ok h1 hk hf (by have := hk.c0 (n, x); omega)).mono ?_
      rintro e w' ⟨rfl, hc, f⟩
      exact ⟨rfl, ⟨y, O', hc, h2⟩, f.mono (fun k _ ok => h2 k ok)⟩
  · rw [if_neg hf]
    have hc := find_any h1 hk n x
    rw [fdK_err hf] at hc
    refine (unmask_err hf hc).mono ?_
    rintro e w' ⟨rfl, f⟩
    exact ⟨rfl, ⟨y, O', h1.no f, h2⟩, f.any⟩
/-- Raise. -/
def stR (s : IS) (n : Int) : IS × Bool × Int :=
  match lnAt s n with
  | none => (s, false, 34)
  | some l => (setLs s n.toNat { l with p := true }, l.p, 0)
theorem stR_ok {s : IS} (h : IOk s) (n : Int) : IOk (stR s n).1 := by
  unfold stR
  cases hl : lnAt s n with
  | none => exact h
  | some l =>
    obtain ⟨m, rfl, hm⟩ := lnAt_some hl
    simp only [Int.toNat_natCast]
    exact h.setL hm rfl
theorem rai_ce {W : World} {O : Nat → Prop} {N B : Nat} {s : IS} (h : CE O N W B s) (hk : IOk s) (n : Int) :
    Calls Try.prog 22 #[.pointer (some ⟨B, 0, none⟩), .int .i64 n] W fun e w' => e = .returned (.tuple #[.bool (stR s n).2.1, .int .i64 (stR s n).2.2]) ∧ CE O N w' B (stR s n).1 ∧ Fr (Ft O N) W w' := by
  unfold stR
  cases hl : lnAt s n with
  | none =>
    obtain ⟨y, O', h1, h2⟩ := h
    refine (raise_bad h1 hk (lnAt_none hl)).mono ?_
    rintro e w' ⟨rfl, rfl⟩
    exact ⟨rfl, ⟨y, O', h1, h2⟩, Fr.refl _ _⟩
  | some l =>
    obtain ⟨m, rfl, hm⟩ := lnAt_some hl
    simp only [Int.toNat_natCast]
    exact raise_ce h hk hm
/-- Deliver. -/
noncomputable def stV (s : IS) : IS := (dA s s.ls.length).1
theorem stV_ok {s : IS} (h : IOk s) : IOk (stV s) := dA_ok h _
end Go.Proofs.Ytbnchmhhhildnaa
