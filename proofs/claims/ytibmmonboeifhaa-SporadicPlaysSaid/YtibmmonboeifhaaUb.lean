/- The contracts of package sporadic's small functions. -/
import Derived.Test.YtibmmonboeifhaaUa
namespace Go.Proofs.Ytibmmonboeifhaa
open Go.RowKit
set_option linter.unusedVariables false

/-- Answers v; the world is as it was but for draws. -/
def Qu (v : Value) (W : World) (e : Ending) (w' : World) : Prop := e = .returned v ∧ ∃ n, w' = W.drewN n
theorem SAt.drewN {W : World} {B : Nat} {q : SQ} (h : SAt W B q) (n : Nat) : SAt (W.drewN n) B q := h.rest (Fr.drewN _ _ _)

theorem made_nil (w : World) : Calls Try.prog 67 #[.pointer none] w fun e w' => e = .returned (.bool false) ∧ w = w' := by
  go_enter Try.func67, Try.ntmps67
  go_wp2
  go_ret
  exact ⟨rfl, rfl⟩
theorem made_any {W : World} {B : Nat} {q : SQ} (h : SAt W B q) : Calls Try.prog 67 #[.pointer (some ⟨B, 0, none⟩)] W fun e w' => e = .returned (.bool true) ∧ W = w' := by
  have c9 : W.cell? ⟨B, 9, none⟩ = some (.func (.func 60) #[] #[]) := h.row.cell 9
  have c10 : W.cell? ⟨B, 10, none⟩ = some (.func (.func 61) #[] #[]) := h.row.cell 10
  have e1 : ∀ w, (binOp BinOp.neq 99 (Value.func (Fn.func 60) #[] #[]) Value.nilFunc).run Try.prog w = .ok (.bool true) w := fun _ => by kernel_rfl
  have e2 : ∀ w, (binOp BinOp.neq 99 (Value.func (Fn.func 61) #[] #[]) Value.nilFunc).run Try.prog w = .ok (.bool true) w := fun _ => by kernel_rfl
  clear h
  go_enter Try.func67, Try.ntmps67
  go_wp2
  go_ret
  exact ⟨rfl, rfl⟩
def isPri (p : Int) : Bool := decide (0 ≤ p) && decide (p ≤ 255)
theorem isPri_iff (p : Int) : isPri p = true ↔ 0 ≤ p ∧ p ≤ 255 := by simp [isPri]
theorem ispri_any (p : Int) (w : World) : Calls Try.prog 62 #[.int .i64 p] w fun e w' => e = .returned (.bool (isPri p)) ∧ w = w' := by
  by_cases h0 : 0 ≤ p
  · by_cases h1 : p ≤ 255
    · have e : isPri p = true := (isPri_iff p).2 ⟨h0, h1⟩
      rw [e]; clear e
      go_enter Try.func62, Try.ntmps62
      go_wp2
      go_ret
      exact ⟨rfl, rfl⟩
    · have e : isPri p = false := by simp [isPri]; omega
      rw [e]; clear e
      have h2 : 255 < p := by omega
      go_enter Try.func62, Try.ntmps62
      go_wp2
      go_ret
      exact ⟨rfl, rfl⟩
  · have e : isPri p = false := by simp [isPri]; omega
    rw [e]; clear e
    go_enter Try.func62, Try.ntmps62
    go_wp2
    go_ret
    exact ⟨rfl, rfl⟩
theorem empty_any {W : World} {B : Nat} {q : SQ} (h : SAt W B q) : Calls Try.prog 69 #[.pointer (some ⟨B, 3, none⟩)] W fun e w' => e = .returned (.bool (decide (q.count = 0))) ∧ W = w' := by
  have c5 : W.cell? ⟨B, 5, none⟩ = some (.int .i64 (q.count : Int)) := h.row.cell 5
  clear h
  go_enter Try.func69, Try.ntmps69
  go_wp2
  go_ret
  refine ⟨?_, rfl⟩
  by_cases h : q.count = 0 <;> simp [h]
theorem full_any {W : World} {B : Nat} {q : SQ} (h : SAt W B q) : Calls Try.prog 93 #[.pointer (some ⟨B, 3, none⟩)] W (Qu (.bool (decide (q.count = q.cap))) W) := by
  have c3 : W.cell? ⟨B, 3, none⟩ = some (.slice (some ⟨q.G, 0, none⟩) q.cap q.cap) := h.row.cell 3
  have c5 : W.cell? ⟨B, 5, none⟩ = some (.int .i64 (q.count : Int)) := h.row.cell 5
  clear h
  go_enter Try.func93, Try.ntmps93
  go_wp2
  go_quiet (fail)
  go_wp2
  go_ret
  refine ⟨?_, _, rfl⟩
  by_cases h : q.count = q.cap
  · simp [h]
  · have : ¬ ((q.count : Int) = q.cap) := by omega
    simp [h, this]
theorem at_any {W : World} {B : Nat} {q : SQ} (h : SAt W B q) (i : Nat) (hi : i ≤ 32) : Calls Try.prog 91 #[.pointer (some ⟨B, 3, none⟩), .int .i64 (i : Int)] W (Qu (.pointer (some ⟨q.G, (q.front + i) % q.cap * 2, none⟩)) W) := by
  have c3 : W.cell? ⟨B, 3, none⟩ = some (.slice (some ⟨q.G, 0, none⟩) q.cap q.cap) := h.row.cell 3
  have c4 : W.cell? ⟨B, 4, none⟩ = some (.int .i64 (q.front : Int)) := h.row.cell 4
  have k1 := h.cap0
  have k2 := h.cap32
  have k3 := h.fr
  have HP : Hid ((q.front + i) % q.cap < q.cap) := Nat.mod_lt _ k1
  have m0 : (0 : Int) < q.cap := by omega
  have m1 : (q.cap : Int) ≤ 32 := by omega
  have m2 : (0 : Int) ≤ (q.front : Int) + i := by omega
  have m3 : (q.front : Int) + i ≤ 64 := by omega
  have m4 : ¬ ((q.cap : Int) = 0) := by omega
  have m5 : ((q.cap : Int) == 0) = false := by simpa using m4
  have m6 : 0 ≤ ((q.front : Int) + i) % q.cap := Int.emod_nonneg _ m4
  have m7 : ((q.front : Int) + i) % q.cap < q.cap := Int.emod_lt_of_pos _ m0
  clear h
  go_enter Try.func91, Try.ntmps91
  go_wp2
  go_quiet (fail)
  go_wp2
  go_ret
  exact ⟨rfl, _, rfl⟩
theorem first_any {W : World} {B : Nat} {q : SQ} (h : SAt W B q) : Calls Try.prog 70 #[.pointer (some ⟨B, 3, none⟩)] W (Qu (.pointer (some ⟨q.G, q.front * 2, none⟩)) W) := by
  have HA : Hid (Calls Try.prog 91 #[.pointer (some ⟨B, 3, none⟩), .int .i64 0] W (Qu (.pointer (some ⟨q.G, q.front * 2, none⟩)) W)) := by
    have := at_any h 0 (by decide)
    rw [Nat.add_zero, Nat.mod_eq_of_lt h.fr] at this; exact this
  clear h
  go_enter Try.func70, Try.ntmps70
  go_wp2_with (go_at_call 91; refine HA.out.mono ?_; rintro e w' ⟨rfl, n, rfl⟩)
  go_ret
  exact ⟨rfl, _, rfl⟩
theorem last_any {W : World} {B : Nat} {q : SQ} (h : SAt W B q) (h0 : 0 < q.count) : Calls Try.prog 95 #[.pointer (some ⟨B, 3, none⟩)] W (Qu (.pointer (some ⟨q.G, (q.front + (q.count - 1)) % q.cap * 2, none⟩)) W) := by
  have c5 : W.cell? ⟨B, 5, none⟩ = some (.int .i64 (q.count : Int)) := h.row.cell 5
  have k1 := h.cnt
  have k2 := h.cap32
  have HA : Hid (Calls Try.prog 91 #[.pointer (some ⟨B, 3, none⟩), .int .i64 ((q.count : Int) - 1)] W (Qu (.pointer (some ⟨q.G, (q.front + (q.count - 1)) % q.cap * 2, none⟩)) W)) := by
    have := at_any h (q.count - 1) (by omega)
    rw [show ((q.count - 1 : Nat) : Int) = (q.count : Int) - 1 from by omega] at this; exact this
  have m1 : (1 : Int) ≤ q.count := by omega
  have m2 : (q.count : Int) ≤ 32 := by omega
  clear h
  go_enter Try.func95, Try.ntmps95
  go_wp2_with (go_at_call 91; refine HA.out.mono ?_; rintro e w' ⟨rfl, n, rfl⟩)
  go_ret
  exact ⟨rfl, _, rfl⟩
/-- The clock checks. -/
def askE (q : SQ) (now : Int) : Int := if now < 0 ∨ 1099511627776 < now then 34 else if now < q.told then 30 else 0
def runE (q : SQ) (now : Int) : Int := if askE q now ≠ 0 then askE q now else if now = q.ran then 30 else 0
theorem ask_any {W : World} {B : Nat} {q : SQ} (h : SAt W B q) (now : Int) : Calls Try.prog 60 #[.pointer (some ⟨B, 0, none⟩), .int .i64 now] W fun e w' => e = .returned (.int .i64 (askE q now)) ∧ W = w' := by
  have c8 : W.cell? ⟨B, 8, none⟩ = some (.int .i64 q.told) := h.row.cell 8
  clear h
  by_cases h1 : now < 0
  · have e : askE q now = 34 := by rw [askE, if_pos (.inl h1)]
    rw [e]; clear e
    go_enter Try.func60, Try.ntmps60
    go_wp2
    go_ret
    exact ⟨rfl, rfl⟩
  · by_cases h2 : 1099511627776 < now
    · have e : askE q now = 34 := by rw [askE, if_pos (.inr h2)]
      rw [e]; clear e
      go_enter Try.func60, Try.ntmps60
      go_wp2
      go_ret
      exact ⟨rfl, rfl⟩
    · by_cases h3 : now < q.told
      · have e : askE q now = 30 := by rw [askE, if_neg (by omega), if_pos h3]
        rw [e]; clear e
        go_enter Try.func60, Try.ntmps60
        go_wp2
        go_ret
        exact ⟨rfl, rfl⟩
      · have e : askE q now = 0 := by rw [askE, if_neg (by omega), if_neg h3]
        rw [e]; clear e
        go_enter Try.func60, Try.ntmps60
        go_wp2
        go_ret
        exact ⟨rfl, rfl⟩
theorem run_err {W : World} {B : Nat} {q : SQ} (h : SAt W B q) (now : Int) : Calls Try.prog 61 #[.pointer (some ⟨B, 0, none⟩), .int .i64 now] W fun e w' => e = .returned (.int .i64 (runE q now)) ∧ W = w' := by
  have c7 : W.cell? ⟨B, 7, none⟩ = some (.int .i64 q.ran) := h.row.cell 7
  have HA := Lib.hid (ask_any h now)
  clear h
  by_cases h1 : askE q now = 0
  · by_cases h2 : now = q.ran
    · have e : runE q now = 30 := by rw [runE, if_neg (by simpa using h1), if_pos h2]
      rw [e]; rw [h1] at HA; clear e h1
      have h2' : (now == q.ran) = true := by simpa using h2
      clear h2
      go_enter Try.func61, Try.ntmps61
      go_wp2_with (go_at_call 60; refine HA.out.mono ?_; rintro e w' ⟨rfl, rfl⟩)
      go_ret
      exact ⟨rfl, rfl⟩
    · have e : runE q now = 0 := by rw [runE, if_neg (by simpa using h1), if_neg h2]
      rw [e]; rw [h1] at HA; clear e h1
      have h2' : (now == q.ran) = false := by simpa using h2
      clear h2
      go_enter Try.func61, Try.ntmps61
      go_wp2_with (go_at_call 60; refine HA.out.mono ?_; rintro e w' ⟨rfl, rfl⟩)
      go_ret
      exact ⟨rfl, rfl⟩
  · have e : runE q now = askE q now := by rw [runE, if_pos h1]
    rw [e]; clear e
    generalize askE q now = z at h1 HA ⊢
    have h1' : (z != 0) = true := by simpa using h1
    clear h1
    go_enter Try.func61, Try.ntmps61
    go_wp2_with (go_at_call 60; refine HA.out.mono ?_; rintro e w' ⟨rfl, rfl⟩)
    go_ret
    exact ⟨rfl, rfl⟩
end Go.Proofs.Ytibmmonboeifhaa
