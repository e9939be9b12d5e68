/- The contracts of the specification's Digits, label, Text. -/
import Derived.Test.YtnnmmkimdknbgaaDoorTc
namespace Go.Proofs.YtnnmmkimdknbgaaDoor
open Go.RowKit
set_option linter.unusedVariables false

theorem dec_small {u : Nat} (h : u < 10) : Lib.decDigits u = [UInt8.ofNat (48 + u)] := by rw [Lib.decDigits, dif_pos h]
theorem dec_big {u : Nat} (h : ¬ u < 10) : Lib.decDigits u = Lib.decDigits (u / 10) ++ [UInt8.ofNat (48 + u % 10)] := by rw [Lib.decDigits, dif_neg h]
def dec (u : Nat) : ByteArray := ⟨(Lib.decDigits u).toArray⟩

set_option maxHeartbeats 1000000 in
set_option maxRecDepth 100000 in
theorem digits_small (u : Nat) (h : u < 10) (w : World) :
    Calls Tryd.prog 23 #[.int .i64 u] w fun e w' => e = .returned (.string (dec u)) ∧ w = w' := by
  have h0 : (0 : Int) ≤ u := by omega
  have h1 : (u : Int) < 10 := by omega
  have HD : Hid ((⟨#[48, 49, 50, 51, 52, 53, 54, 55, 56, 57]⟩ : ByteArray).extract u (u + 1) = dec u) := by
    have e : ∀ j : Fin 10, (⟨#[48, 49, 50, 51, 52, 53, 54, 55, 56, 57]⟩ : ByteArray).extract j.1 (j.1 + 1) = ⟨#[UInt8.ofNat (48 + j.1)]⟩ := by decide
    show _ = _
    rw [dec, dec_small h]
    exact e ⟨u, h⟩
  go_enter Tryd.func23, Tryd.ntmps23
  go_wp2
  go_ret
  exact ⟨by rw [← HD.out]; rfl, rfl⟩

theorem dec_len (u : Nat) (h : u < 4611686018427387904) : (dec u).size ≤ 20 := by
  have := Lib.nDigits_le20 u (by omega)
  show (Lib.decDigits u).toArray.size ≤ 20
  rw [List.size_toArray, Lib.decDigits_length]; exact this
theorem dec_join {u : Nat} (h : ¬ u < 10) : dec (u / 10) ++ dec (u % 10) = dec u := by
  rw [dec, dec, dec, dec_big h, dec_small (u := u % 10) (by omega)]
  exact ByteArray.ext (by rw [ByteArray.data_append]; simp)
set_option maxHeartbeats 1000000 in
set_option maxRecDepth 100000 in
theorem digits_any (u : Nat) : u < 4611686018427387904 → ∀ w : World,
    Calls Tryd.prog 23 #[.int .i64 u] w fun e w' => e = .returned (.string (dec u)) ∧ w = w' := by
  induction u using Nat.strongRecOn with
  | _ u ih =>
  intro hu w
  by_cases h : u < 10
  · exact digits_small u h w
  · have h1 : (10 : Int) ≤ u := by omega
    have IH := Lib.hid (ih (u / 10) (by omega) (by omega))
    have HJ := Lib.hid (dec_join h)
    clear ih
    have hm : u % 10 < 10 := by omega
    have HM := Lib.hid (digits_small (u % 10) hm)
    have c1 : (u : Int).tdiv 10 = ((u / 10 : Nat) : Int) := by rw [Int.tdiv_eq_ediv_of_nonneg (by omega)]; omega
    have c2 : (u : Int).tmod 10 = ((u % 10 : Nat) : Int) := by rw [Int.tmod_eq_emod_of_nonneg (by omega)]; omega
    clear hm
    have q0 : 0 ≤ u / 10 ∧ u / 10 < 4611686018427387904 := ⟨by omega, by omega⟩
    have r0 : 0 ≤ u % 10 ∧ u % 10 < 10 := ⟨by omega, by omega⟩
    generalize u / 10 = q at IH HJ c1 q0
    generalize u % 10 = r at HM HJ c2 r0
    have e1 : wrap64 (q : Int) = q := IntWalk.wrap64_in _ ⟨by omega, by omega⟩
    have e2 : wrap64 (r : Int) = r := IntWalk.wrap64_in _ ⟨by omega, by omega⟩
    have hsz : ¬ 9223372036854775807 < (dec q).size + (dec r).size := by have := dec_len q (by omega); have := dec_len r (by omega); omega
    clear q0 r0
    go_enter Tryd.func23, Tryd.ntmps23
    go_wp2_with (go_at_call 23; (try rw [e1]); refine (IH.out _).mono ?_)
    rintro e w' ⟨rfl, rfl⟩
    go_wp2_with (go_at_call 23; (try rw [e2]); refine (HM.out _).mono ?_)
    rintro e w' ⟨rfl, rfl⟩
    go_wp2
    go_ret
    exact ⟨by rw [← HJ.out]; rfl, rfl⟩
end Go.Proofs.YtnnmmkimdknbgaaDoor
