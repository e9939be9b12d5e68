/- The contracts of package ready's small functions. -/
import Derived.Test.YtjaaljcdaamcjaaGreatYb
import Derived.IntWalk
namespace Go.Proofs.YtjaaljcdaamcjaaGreat.Rd
open Go.RowKit
set_option linter.unusedVariables false

def isThr (n : Int) : Bool := decide (0 ≤ n) && decide (n < 256)
def isMsk (n : Int) : Bool := decide (0 < n) && decide (n < 256)
def isPro (n : Int) : Bool := decide (0 ≤ n) && decide (n < 8)
theorem isThr_iff (n : Int) : isThr n = true ↔ 0 ≤ n ∧ n < 256 := by simp [isThr]
theorem isMsk_iff (n : Int) : isMsk n = true ↔ 0 < n ∧ n < 256 := by simp [isMsk]
theorem isPro_iff (n : Int) : isPro n = true ↔ 0 ≤ n ∧ n < 8 := by simp [isPro]

theorem isthread_any (n : Int) (w : World) : Calls Tryz.prog 156 #[.int .i64 n] w fun e w' => e = .returned (.bool (isThr n)) ∧ w = w' := by
  by_cases h : 0 ≤ n
  · have HV : Hid (isThr n = decide (n < 256)) := by show _ = _; simp [isThr, h]
    go_enter Tryz.func156, Tryz.ntmps156
    go_wp2
    go_ret
    exact ⟨by rw [HV.out]; rfl, rfl⟩
  · have HV : Hid (isThr n = false) := by show _ = _; simp [isThr, h]
    have h2 : decide (0 ≤ n) = false := by simpa using h
    go_enter Tryz.func156, Tryz.ntmps156
    go_wp2
    go_ret
    exact ⟨by rw [HV.out]; rfl, rfl⟩
theorem ispriority_any (n : Int) (w : World) : Calls Tryz.prog 157 #[.int .i64 n] w fun e w' => e = .returned (.bool (isThr n)) ∧ w = w' := by
  by_cases h : 0 ≤ n
  · have HV : Hid (isThr n = decide (n < 256)) := by show _ = _; simp [isThr, h]
    go_enter Tryz.func157, Tryz.ntmps157
    go_wp2
    go_ret
    exact ⟨by rw [HV.out]; rfl, rfl⟩
  · have HV : Hid (isThr n = false) := by show _ = _; simp [isThr, h]
    have h2 : decide (0 ≤ n) = false := by simpa using h
    go_enter Tryz.func157, Tryz.ntmps157
    go_wp2
    go_ret
    exact ⟨by rw [HV.out]; rfl, rfl⟩
theorem ismask_any (n : Int) (w : World) : Calls Tryz.prog 158 #[.int .i64 n] w fun e w' => e = .returned (.bool (isMsk n)) ∧ w = w' := by
  by_cases h : 0 < n
  · have HV : Hid (isMsk n = decide (n < 256)) := by show _ = _; simp [isMsk, h]
    go_enter Tryz.func158, Tryz.ntmps158
    go_wp2
    go_ret
    exact ⟨by rw [HV.out]; rfl, rfl⟩
  · have HV : Hid (isMsk n = false) := by show _ = _; simp [isMsk, h]
    have h2 : decide (0 < n) = false := by simpa using h
    go_enter Tryz.func158, Tryz.ntmps158
    go_wp2
    go_ret
    exact ⟨by rw [HV.out]; rfl, rfl⟩
def holdsB (q : QS) (t : Nat) : Bool := ((q.mask t : Int) != 0)
theorem holdsB_iff (q : QS) (t : Nat) : holdsB q t = true ↔ q.mask t ≠ 0 := by simp [holdsB]
theorem holds_any {W : World} {B : Nat} {q : QS} (h : QAt W B q) (t : Nat) (ht : t < 256) : Calls Tryz.prog 159 #[.pointer (some ⟨B, 0, none⟩), .int .i64 t] W fun e w' => e = .returned (.bool (holdsB q t)) ∧ W = w' := by
  have hc := h.mask t ht
  have h0 : (0 : Int) ≤ t := by omega
  have h1 : (t : Int) < 256 := by omega
  have HV : Hid (holdsB q t = ((q.mask t : Int) != 0)) := rfl
  clear h
  go_enter Tryz.func159, Tryz.ntmps159
  go_wp2
  go_ret
  exact ⟨by rw [HV.out]; rfl, rfl⟩

/-- What check answers. -/
def chkV (q : QS) (t : Int) (v : Bool) : Int := if isThr t = false ∨ v = false then 34 else if q.mask t.toNat = 0 then 22 else 0
theorem check_nil (t : Int) (v : Bool) (w : World) : Calls Tryz.prog 184 #[.pointer none, .int .i64 t, .bool v] w fun e w' => e = .returned (.int .i64 35) ∧ w = w' := by
  go_enter Tryz.func184, Tryz.ntmps184
  go_wp2
  go_ret
  exact ⟨rfl, rfl⟩
theorem check_any {W : World} {B : Nat} {q : QS} (h : QAt W B q) (t : Int) (v : Bool) : Calls Tryz.prog 184 #[.pointer (some ⟨B, 0, none⟩), .int .i64 t, .bool v] W fun e w' => e = .returned (.int .i64 (chkV q t v)) ∧ W = w' := by
  by_cases h1 : isThr t = true
  · cases v with
    | false =>
      have HV : Hid (chkV q t false = 34) := by show _ = _; simp [chkV]
      have HI := Lib.hid h1
      clear h1 h
      go_enter Tryz.func184, Tryz.ntmps184
      go_wp2_with (go_at_call 156; refine (isthread_any _ _).mono ?_; rw [HI.out]; rintro e w' ⟨rfl, rfl⟩)
      go_ret
      exact ⟨by rw [HV.out]; rfl, rfl⟩
    | true =>
      obtain ⟨k, rfl⟩ : ∃ k : Nat, t = k := ⟨t.toNat, by have := (isThr_iff t).1 h1; omega⟩
      have hk : k < 256 := by have := (isThr_iff (k : Int)).1 h1; omega
      have HI := Lib.hid h1
      by_cases hm : q.mask k = 0
      · have HH : Hid (holdsB q k = false) := by show _ = _; simp [holdsB, hm]
        have HV : Hid (chkV q k true = 22) := by show _ = _; simp [chkV, h1, hm]
        have HC := Lib.hid (holds_any h k hk)
        clear h1 h hm
        go_enter Tryz.func184, Tryz.ntmps184
        go_wp2_with (first
          | (go_at_call 156; refine (isthread_any _ _).mono ?_; rw [HI.out]; rintro e w' ⟨rfl, rfl⟩)
          | (go_at_call 159; refine HC.out.mono ?_; rw [HH.out]; rintro e w' ⟨rfl, rfl⟩))
        go_ret
        exact ⟨by rw [HV.out]; rfl, rfl⟩
      · have HH : Hid (holdsB q k = true) := by show _ = _; exact (holdsB_iff q k).2 hm
        have HV : Hid (chkV q k true = 0) := by show _ = _; simp [chkV, h1, hm]
        have HC := Lib.hid (holds_any h k hk)
        clear h1 h hm
        go_enter Tryz.func184, Tryz.ntmps184
        go_wp2_with (first
          | (go_at_call 156; refine (isthread_any _ _).mono ?_; rw [HI.out]; rintro e w' ⟨rfl, rfl⟩)
          | (go_at_call 159; refine HC.out.mono ?_; rw [HH.out]; rintro e w' ⟨rfl, rfl⟩))
        go_ret
        exact ⟨by rw [HV.out]; rfl, rfl⟩
  · have h2 : isThr t = false := by simpa using h1
    have HV : Hid (chkV q t v = 34) := by show _ = _; simp [chkV, h2]
    have HI := Lib.hid h2
    clear h1 h2 h
    go_enter Tryz.func184, Tryz.ntmps184
    go_wp2_with (go_at_call 156; refine (isthread_any _ _).mono ?_; rw [HI.out]; rintro e w' ⟨rfl, rfl⟩)
    go_ret
    exact ⟨by rw [HV.out]; rfl, rfl⟩

theorem alone_any {W : World} {B : Nat} {q : QS} (h : QAt W B q) (t : Nat) (ht : t < 256) : Calls Tryz.prog 181 #[.pointer (some ⟨B, 0, none⟩), .int .i64 t] W fun e w' => (∃ v, e = .returned v) ∧ W.grownBy w' (some B) ∧ QAt w' B { q with after := upd q.after t t, before := upd q.before t t } := by
  have hc := h.after t ht
  have hd := h.before t ht
  have f1 := h.frozen t
  have f2 := h.frozen (256 + t)
  have h0 : (0 : Int) ≤ t := by omega
  have h1 : (t : Int) < 256 := by omega
  have HR := Lib.hid ((h.setAfter t t ht).setBefore t t ht)
  clear h
  go_enter Tryz.func181, Tryz.ntmps181
  go_wp2
  go_end0
  exact ⟨⟨_, rfl⟩, grown_trans (grown_set _ _ _ _) (grown_set _ _ _ _), HR.out⟩
end Go.Proofs.YtjaaljcdaamcjaaGreat.Rd
