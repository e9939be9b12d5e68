/- Interrupts: Masks, Spurious, Raise, Line; Mask, Unmask. -/
import Derived.Test.YtbnchmhhhildnaaXh
namespace Go.Proofs.Ytbnchmhhhildnaa
open Go.RowKit Go.Maps
set_option linter.unusedVariables false

/-- What a line's order is. -/
def ordL (s : IS) (n : Int) : List Int := match s.ls[n.toNat]? with | some l => l.o | none => []
def sumI (s : IS) (n : Int) : Int := sumL s n (ordL s n)
theorem ckL_ok {s : IS} {n : Int} (h : ckL s.ls.length n = 0) : ∃ (m : Nat) (l : IL), n = m ∧ s.ls[m]? = some l := by
  unfold ckL at h
  split at h
  · rename_i hn
    exact ⟨n.toNat, s.ls[n.toNat]'(by omega), by omega, List.getElem?_eq_getElem _⟩
  · omega
theorem ordL_nat {s : IS} {m : Nat} {l : IL} (h : s.ls[m]? = some l) : ordL s m = l.o := by unfold ordL; rw [Int.toNat_natCast, h]
theorem masks_nil (x : Int) (W : World) : Calls Try.prog 13 #[.pointer none, .int .i64 x] W fun e w' => e = .returned (.tuple #[.int .i64 0, .int .i64 35]) ∧ W = w' := by
  go_enter Try.func13, Try.ntmps13
  go_wp2_with (go_at_call 39; refine (check_nil _ _).mono ?_; rintro e w2 ⟨rfl, f2⟩; subst f2)
  go_ret2
  exact ⟨rfl, rfl⟩
theorem ckL_cases (n : Nat) (x : Int) : ckL n x = 0 ∨ ckL n x = 34 := by unfold ckL; split <;> simp
theorem masks_ok {W : World} {O : Nat → Prop} {B : Nat} {y : LY} {s : IS} (h : CM W O B y s) (hk : IOk s) (x : Int) : Calls Try.prog 13 #[.pointer (some ⟨B, 0, none⟩), .int .i64 x] W fun e w' => e = .returned (.tuple #[.int .i64 (if ckL s.ls.length x = 0 then sumI s x else 0), .int .i64 (ckL s.ls.length x)]) ∧ W = w' := by
  have HC := Lib.hid (check_any h hk.n0 x)
  rcases ckL_cases s.ls.length x with hz | hz
  · rw [hz] at HC ⊢
    obtain ⟨m, l, rfl, hl⟩ := ckL_ok hz
    have HS := Lib.hid (sum_ok h hk hl)
    have hv : sumL s m l.o = sumI s m := by unfold sumI; rw [ordL_nat hl]
    rw [hv] at HS
    clear hv hl hz h hk
    simp only [if_true]
    go_enter Try.func13, Try.ntmps13
    go_wp2_with (first
      | (go_at_call 39; refine HC.out.mono ?_; rintro e w2 ⟨rfl, f2⟩; subst f2)
      | (go_at_call 40; refine HS.out.mono ?_; rintro e w2 ⟨rfl, f2⟩; subst f2))
    go_ret2
    exact ⟨rfl, rfl⟩
  · rw [hz] at HC ⊢
    clear hz h hk
    rw [if_neg (by omega)]
    go_enter Try.func13, Try.ntmps13
    go_wp2_with (go_at_call 39; refine HC.out.mono ?_; rintro e w2 ⟨rfl, f2⟩; subst f2)
    go_ret2
    exact ⟨rfl, rfl⟩
theorem spur_nil (x : Int) (W : World) : Calls Try.prog 15 #[.pointer none, .int .i64 x] W fun e w' => e = .returned (.tuple #[.int .i64 0, .int .i64 35]) ∧ W = w' := by
  go_enter Try.func15, Try.ntmps15
  go_wp2_with (go_at_call 39; refine (check_nil _ _).mono ?_; rintro e w2 ⟨rfl, f2⟩; subst f2)
  go_ret2
  exact ⟨rfl, rfl⟩
/-- The spurious interrupts of a line. -/
def spI (s : IS) (n : Int) : Int := match s.ls[n.toNat]? with | some l => l.s | none => 0
theorem spI_nat {s : IS} {m : Nat} {l : IL} (h : s.ls[m]? = some l) : spI s m = l.s := by unfold spI; rw [Int.toNat_natCast, h]
set_option maxRecDepth 100000 in
theorem spur_ok {W : World} {O : Nat → Prop} {B : Nat} {y : LY} {s : IS} (h : CM W O B y s) (hk : IOk s) (x : Int) : Calls Try.prog 15 #[.pointer (some ⟨B, 0, none⟩), .int .i64 x] W fun e w' => e = .returned (.tuple #[.int .i64 (if ckL s.ls.length x = 0 then spI s x else 0), .int .i64 (ckL s.ls.length x)]) ∧ W = w' := by
  have HC := Lib.hid (check_any h hk.n0 x)
  rcases ckL_cases s.ls.length x with hz | hz
  · rw [hz] at HC ⊢
    obtain ⟨m, l, rfl, hl⟩ := ckL_ok hz
    obtain ⟨a, cap, hv⟩ := h.vs hl
    have hn := (List.getElem?_eq_some_iff.1 hl).1
    have n0 : (0 : Int) ≤ (m : Int) := by omega
    have n1 : (m : Int) < (s.ls.length : Nat) := by omega
    have c0 : W.cell? ⟨B, 0, none⟩ = some (.slice (some ⟨y.b, 0, none⟩) s.ls.length y.cap) := h.row.cell 0
    have q1 : W.cell? ⟨y.b, m * 4 + 3, none⟩ = some (.int .i64 l.s) := (h.lines.cells hl hv).2.2.2
    rw [spI_nat hl]
    clear hv hl hz h hk hn
    simp only [if_true]
    go_enter Try.func15, Try.ntmps15
    go_wp2_with (first
      | (go_at_call 39; refine HC.out.mono ?_; rintro e w2 ⟨rfl, f2⟩; subst f2))
    go_ret2
    exact ⟨rfl, rfl⟩
  · rw [hz] at HC ⊢
    clear hz h hk
    rw [if_neg (by omega)]
    go_enter Try.func15, Try.ntmps15
    go_wp2_with (go_at_call 39; refine HC.out.mono ?_; rintro e w2 ⟨rfl, f2⟩; subst f2)
    go_ret2
    exact ⟨rfl, rfl⟩
theorem line_nil (x : Int) (W : World) : Calls Try.prog 17 #[.pointer none, .int .i64 x] W fun e w' => e = .returned (.chan none) ∧ W = w' := by
  go_enter Try.func17, Try.ntmps17
  go_wp2_with (go_at_call 39; refine (check_nil _ _).mono ?_; rintro e w2 ⟨rfl, f2⟩; subst f2)
  go_ret
  exact ⟨rfl, rfl⟩
/-- The channel of a line. -/
def chI (s : IS) (n : Int) : Option Nat := if 0 ≤ n then (s.ls[n.toNat]?).map (·.ch) else none
set_option maxRecDepth 100000 in
theorem line_ok {W : World} {O : Nat → Prop} {B : Nat} {y : LY} {s : IS} (h : CM W O B y s) (hk : IOk s) (x : Int) : Calls Try.prog 17 #[.pointer (some ⟨B, 0, none⟩), .int .i64 x] W fun e w' => e = .returned (.chan (chI s x)) ∧ W = w' := by
  have HC := Lib.hid (check_any h hk.n0 x)
  rcases ckL_cases s.ls.length x with hz | hz
  · rw [hz] at HC
    obtain ⟨m, l, rfl, hl⟩ := ckL_ok hz
    obtain ⟨a, cap, hv⟩ := h.vs hl
    have hn := (List.getElem?_eq_some_iff.1 hl).1
    have n0 : (0 : Int) ≤ (m : Int) := by omega
    have n1 : (m : Int) < (s.ls.length : Nat) := by omega
    have c0 : W.cell? ⟨B, 0, none⟩ = some (.slice (some ⟨y.b, 0, none⟩) s.ls.length y.cap) := h.row.cell 0
    have q1 : W.cell? ⟨y.b, m * 4, none⟩ = some (.chan (some l.ch)) := (h.lines.cells hl hv).1
    have e1 : chI s m = some l.ch := by unfold chI; rw [if_pos n0, Int.toNat_natCast, hl]; rfl
    rw [e1]
    clear hv hl hz h hk hn e1
    go_enter Try.func17, Try.ntmps17
    go_wp2_with (first
      | (go_at_call 39; refine HC.out.mono ?_; rintro e w2 ⟨rfl, f2⟩; subst f2))
    go_ret
    exact ⟨rfl, rfl⟩
  · rw [hz] at HC
    have e1 : chI s x = none := by
      unfold chI
      split
      · rename_i h0
        rw [List.getElem?_eq_none (by unfold ckL at hz; split at hz <;> omega)]; rfl
      · rfl
    rw [e1]
    clear hz h hk e1
    go_enter Try.func17, Try.ntmps17
    go_wp2_with (go_at_call 39; refine HC.out.mono ?_; rintro e w2 ⟨rfl, f2⟩; subst f2)
    go_ret
    exact ⟨rfl, rfl⟩
theorem raise_nil (x : Int) (W : World) : Calls Try.prog 22 #[.pointer none, .int .i64 x] W fun e w' => e = .returned (.tuple #[.bool false, .int .i64 35]) ∧ W = w' := by
  go_enter Try.func22, Try.ntmps22
  go_wp2_with (go_at_call 39; refine (check_nil _ _).mono ?_; rintro e w2 ⟨rfl, f2⟩; subst f2)
  go_ret2
  exact ⟨rfl, rfl⟩
theorem raise_bad {W : World} {O : Nat → Prop} {B : Nat} {y : LY} {s : IS} (h : CM W O B y s) (hk : IOk s) {x : Int} (hz : ckL s.ls.length x = 34) : Calls Try.prog 22 #[.pointer (some ⟨B, 0, none⟩), .int .i64 x] W fun e w' => e = .returned (.tuple #[.bool false, .int .i64 34]) ∧ W = w' := by
  have HC := Lib.hid (check_any h hk.n0 x)
  rw [hz] at HC
  clear hz h hk
  go_enter Try.func22, Try.ntmps22
  go_wp2_with (go_at_call 39; refine HC.out.mono ?_; rintro e w2 ⟨rfl, f2⟩; subst f2)
  go_ret2
  exact ⟨rfl, rfl⟩
def setLs (s : IS) (n : Nat) (l : IL) : IS := { s with ls := s.ls.set n l }
theorem IOk.setL {s : IS} (h : IOk s) {n : Nat} {l l' : IL} (hl : s.ls[n]? = some l) (ho : l'.o = l.o) : IOk (setLs s n l') := by
  have hn := (List.getElem?_eq_some_iff.1 hl).1
  have key : ∀ (i : Nat) (m : IL), (s.ls.set n l')[i]? = some m → ∃ m0 : IL, s.ls[i]? = some m0 ∧ m.o = m0.o := fun i m hm => by
    by_cases e : i = n
    · subst e
      rw [List.getElem?_set_self hn] at hm
      cases hm; exact ⟨l, hl, ho⟩
    · rw [List.getElem?_set_ne (fun q => e q.symm)] at hm
      exact ⟨m, hm, rfl⟩
  refine ⟨by simp [setLs, h.n0], by simp [setLs, h.n1], h.srt, h.key, h.cnt, fun i m x hm => ?_, fun i m hm => ?_, fun x t ht => by have := h.lin x t ht; simpa [setLs] using this, h.c0, h.c1, h.cz⟩
  · obtain ⟨m0, h1, h2⟩ := key i m hm
    rw [h2]; exact h.ord i m0 x h1
  · obtain ⟨m0, h1, h2⟩ := key i m hm
    rw [h2]; exact h.dup i m0 h1
set_option maxRecDepth 100000 in
theorem raise_ok {W : World} {O : Nat → Prop} {B : Nat} {y : LY} {s : IS} (h : CM W O B y s) (hk : IOk s) {n : Nat} {l : IL} (hl : s.ls[n]? = some l) : Calls Try.prog 22 #[.pointer (some ⟨B, 0, none⟩), .int .i64 (n : Int)] W fun e w' => e = .returned (.tuple #[.bool l.p, .int .i64 0]) ∧ CM w' O B y (setLs s n { l with p := true }) ∧ Fr O W w' := by
  obtain ⟨a, cap, hv⟩ := h.vs hl
  have hn := (List.getElem?_eq_some_iff.1 hl).1
  have n0 : (0 : Int) ≤ (n : Int) := by omega
  have n1 : (n : Int) < (s.ls.length : Nat) := by omega
  have hc := check_any h hk.n0 (n : Int)
  rw [show ckL s.ls.length n = 0 from by unfold ckL; rw [if_pos (by omega)]] at hc
  have HC := Lib.hid hc
  have c0 : W.cell? ⟨B, 0, none⟩ = some (.slice (some ⟨y.b, 0, none⟩) s.ls.length y.cap) := h.row.cell 0
  have q1 : W.cell? ⟨y.b, n * 4 + 2, none⟩ = some (.bool l.p) := (h.lines.cells hl hv).2.2.1
  have f1 : W.frozen? ⟨y.b, n * 4 + 2, none⟩ = false := h.lines.frozen _
  have HX := Lib.hid (h.setL hl (.inl rfl) (.bool true) { l with p := true } rfl rfl (.inl ⟨rfl, rfl⟩) (.inr ⟨by omega, rfl⟩))
  have HF : Hid (Fr O W (W.setCell ⟨y.b, n * 4 + 2, none⟩ (.bool true))) := Fr.set _ _ _ _ h.ob
  clear hv hl h hk hn hc
  go_enter Try.func22, Try.ntmps22
  go_wp2_with (go_at_call 39; refine HC.out.mono ?_; rintro e w2 ⟨rfl, f2⟩; subst f2)
  go_ret2
  exact ⟨rfl, HX.out, HF.out⟩
end Go.Proofs.Ytbnchmhhhildnaa
