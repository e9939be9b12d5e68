/- The contract of costs.decimal. -/
import Derived.Test.YtnnmmkimdknbgaaDoorTd
namespace Go.Proofs.YtnnmmkimdknbgaaDoor
open Go.RowKit
set_option linter.unusedVariables false

/-- The number of the digits, from acc on; none if there is another byte. -/
def decF : Nat → List UInt8 → Option Nat
  | n, [] => some n
  | n, b :: r => if 48 ≤ b.toNat ∧ b.toNat ≤ 57 then decF (10 * n + (b.toNat - 48)) r else none
/-- What a number's text stands for. -/
def decV (s : ByteArray) : Option Nat :=
  if s.size = 0 then none else if 9 < s.size then none else if 1 < s.size ∧ s.data.toList.head? = some 48 then none else decF 0 s.data.toList
def decR (o : Option Nat) : Ending := .returned (.tuple #[.int .i64 ((o.getD 0 : Nat) : Int), .bool o.isSome])

theorem ne_nil {s : ByteArray} (h : 0 < s.size) : ¬ s.toList = [] := fun e => by
  rw [ByteArray.toList_eq] at e
  have : s.data.toList.length = 0 := by rw [e]; rfl
  have h2 : s.size = s.data.toList.length := rfl
  omega
set_option maxHeartbeats 1000000 in
set_option maxRecDepth 100000 in
theorem decimal_empty (s : ByteArray) (w : World) (h : s.size = 0) : Calls Tryd.prog 42 #[.string s] w fun e w' => e = decR (decV s) ∧ w = w' := by
  obtain rfl : s = ⟨#[]⟩ := ByteArray.ext (Array.eq_empty_of_size_eq_zero h)
  go_enter Tryd.func42, Tryd.ntmps42
  go_wp2
  go_ret2
  exact ⟨rfl, rfl⟩
set_option maxHeartbeats 1000000 in
set_option maxRecDepth 100000 in
theorem decimal_long (s : ByteArray) (w : World) (h : 9 < s.size) : Calls Tryd.prog 42 #[.string s] w fun e w' => e = decR (decV s) ∧ w = w' := by
  have HV : Hid (decV s = none) := by show _ = _; rw [decV, if_neg (by omega), if_pos h]
  have hne : ¬ s.toList = [] := ne_nil (by omega)
  have hnee : s.toList.isEmpty = false := by simpa using hne
  have hi : (9 : Int) < s.size := by omega
  clear h
  go_enter Tryd.func42, Tryd.ntmps42
  go_wp2
  go_ret2
  exact ⟨by rw [HV.out]; rfl, rfl⟩
set_option maxHeartbeats 1000000 in
set_option maxRecDepth 100000 in
theorem decimal_zero (s : ByteArray) (w : World) (h : s.size ≤ 9) (h1 : 1 < s.size) (hz : (s[0]'(by omega)).toNat = 48) : Calls Tryd.prog 42 #[.string s] w fun e w' => e = decR (decV s) ∧ w = w' := by
  have HV : Hid (decV s = none) := by
    have e : s.data.toList.head? = some 48 := by
      have h2 : 0 < s.data.toList.length := by show 0 < s.size; omega
      rw [List.head?_eq_getElem?, List.getElem?_eq_getElem h2]
      exact congrArg some (UInt8.toNat_inj.1 hz)
    show _ = _
    rw [decV, if_neg (by omega), if_neg (by omega), if_pos ⟨h1, e⟩]
  have hne : ¬ s.toList = [] := ne_nil (by omega)
  have hnee : s.toList.isEmpty = false := by simpa using hne
  have hi : ¬ (9 : Int) < s.size := by omega
  have hi2 : (s.size : Int) ≤ 9 := by omega
  have hj : (1 : Int) < s.size := by omega
  have hp : (0 : Int) < s.size := by omega
  have hz' : (((s[0]'(by omega)).toNat : Int) == 48) = true := by rw [hz]; rfl
  go_enter Tryd.func42, Tryd.ntmps42
  go_wp2
  go_ret2
  exact ⟨by rw [HV.out]; rfl, rfl⟩

theorem decF_step (s : ByteArray) (n k : Nat) (h : k < s.size) : decF n (s.data.toList.drop k) = if 48 ≤ (s[k]'h).toNat ∧ (s[k]'h).toNat ≤ 57 then decF (10 * n + ((s[k]'h).toNat - 48)) (s.data.toList.drop (k + 1)) else none := by
  have hl : k < s.data.toList.length := h
  rw [List.drop_eq_getElem_cons hl, decF]
  rfl
theorem decF_end (s : ByteArray) (n k : Nat) (h : k = s.size) : decF n (s.data.toList.drop k) = some n := by
  have : s.data.toList.length ≤ k := by rw [h]; exact Nat.le_refl _
  rw [List.drop_eq_nil_of_le this, decF]
theorem pow9 {k : Nat} (h : k ≤ 9) : 10 ^ k ≤ 1000000000 := Nat.pow_le_pow_right (by decide) h

set_option maxHeartbeats 2000000 in
set_option maxRecDepth 100000 in
theorem decimal_one (s : ByteArray) (w : World) (h : s.size ≤ 9) (h1 : 1 < s.size) (hz : ¬ (s[0]'(by omega)).toNat = 48) : Calls Tryd.prog 42 #[.string s] w fun e w' => e = decR (decV s) ∧ w = w' := by
  have HV : Hid (decV s = decF 0 s.data.toList) := by
    have e : ¬ (1 < s.size ∧ s.data.toList.head? = some 48) := fun hh => hz (by
      have h2 : 0 < s.data.toList.length := by show 0 < s.size; omega
      have h3 := hh.2
      rw [List.head?_eq_getElem?, List.getElem?_eq_getElem h2] at h3
      exact congrArg UInt8.toNat (Option.some.inj h3))
    show _ = _
    rw [decV, if_neg (by omega), if_neg (by omega), if_neg e]
  have HS := Lib.hid h
  have hne : ¬ s.toList = [] := ne_nil (by omega)
  have hnee : s.toList.isEmpty = false := by simpa using hne
  have hi : ¬ (9 : Int) < s.size := by omega
  have hi2 : (s.size : Int) ≤ 9 := by omega
  have hj : (1 : Int) < s.size := by omega
  have hp : (0 : Int) < s.size := by omega
  have hz' : (((s[0]'(by omega)).toNat : Int) == 48) = false := beq_eq_false_iff_ne.2 (by omega)
  go_enter Tryd.func42, Tryd.ntmps42
  go_wp2
  go_loop [4, 26] (fun n i => ∃ k m : Nat, k ≤ s.size ∧ i = .int .i64 k ∧ n = .int .i64 m ∧ m < 10 ^ k ∧ Hid (decF m (s.data.toList.drop k) = decV s)) (fun _ i => s.size - (intOf i).toNat)
  case atStart => exact ⟨0, 0, by omega, rfl, rfl, by decide, by show _ = _; rw [HV.out]; rfl⟩
  case round =>
    obtain ⟨k, m, hk, rfl, rfl, hm, HK⟩ := hrel
    by_cases hlt : k < s.size
    · have hstep := decF_step s m k hlt
      have k0 : (0 : Int) ≤ k := by omega
      have k1 : (k : Int) < s.size := by omega
      have kn : ((k : Int).toNat) = k := Int.toNat_natCast k
      by_cases c1 : (s[k]'hlt).toNat < 48
      · have HE : Hid (decV s = none) := by show _ = _; rw [← HK.out, hstep, if_neg (by omega)]
        have ci : ((s[k]'hlt).toNat : Int) < 48 := by omega
        clear hstep
        go_wp2
        go_ret2
        exact ⟨by rw [HE.out]; rfl, rfl⟩
      · by_cases c2 : 57 < (s[k]'hlt).toNat
        · have HE : Hid (decV s = none) := by show _ = _; rw [← HK.out, hstep, if_neg (by omega)]
          have ci : ¬ ((s[k]'hlt).toNat : Int) < 48 := by omega
          have cj : (57 : Int) < ((s[k]'hlt).toNat : Int) := by omega
          clear hstep
          go_wp2
          go_ret2
          exact ⟨by rw [HE.out]; rfl, rfl⟩
        · have HE : Hid (decF (10 * m + ((s[k]'hlt).toNat - 48)) (s.data.toList.drop (k + 1)) = decV s) := by show _ = _; rw [← HK.out, hstep, if_pos ⟨by omega, by omega⟩]
          have ci : ¬ ((s[k]'hlt).toNat : Int) < 48 := by omega
          have cj : ¬ (57 : Int) < ((s[k]'hlt).toNat : Int) := by omega
          clear hstep
          have hp9 : m < 1000000000 := Nat.lt_of_lt_of_le hm (pow9 (by omega))
          have hpw : 10 * m + ((s[k]'hlt).toNat - 48) < 10 ^ (k + 1) := by rw [Nat.pow_succ]; omega
          have hvv : wrap64 (wrap64 (10 * (m : Int)) + (((s[k]'hlt).toNat : Int) - 48)) = ((10 * m + ((s[k]'hlt).toNat - 48) : Nat) : Int) := by
            rw [IntWalk.wrap64_in (10 * (m : Int)) ⟨by omega, by omega⟩, IntWalk.wrap64_in _ ⟨by omega, by omega⟩]
            omega
          have HVV := Lib.hid hvv
          clear hp9 hvv
          go_wp2
          refine ⟨⟨k + 1, 10 * m + ((s[k]'hlt).toNat - 48), by omega, by go_num, by rw [HVV.out], hpw, HE⟩, ?_⟩
          simp [intOf]; omega
    · obtain rfl : k = s.size := by omega
      have HE : Hid (decV s = some m) := by show _ = _; rw [← HK.out, decF_end s m _ rfl]
      have hd : decide ((s.size : Int) < s.size) = false := by simp
      go_wp2
      go_ret2
      exact ⟨by rw [HE.out]; rfl, rfl⟩
set_option maxHeartbeats 2000000 in
set_option maxRecDepth 100000 in
theorem decimal_single (s : ByteArray) (w : World) (h : s.size ≤ 9) (h1 : s.size = 1) : Calls Tryd.prog 42 #[.string s] w fun e w' => e = decR (decV s) ∧ w = w' := by
  have HV : Hid (decV s = decF 0 s.data.toList) := by
    have e : ¬ (1 < s.size ∧ s.data.toList.head? = some 48) := fun hh => by omega
    show _ = _
    rw [decV, if_neg (by omega), if_neg (by omega), if_neg e]
  have HS := Lib.hid h
  have hne : ¬ s.toList = [] := ne_nil (by omega)
  have hnee : s.toList.isEmpty = false := by simpa using hne
  have hi : ¬ (9 : Int) < s.size := by omega
  have hi2 : (s.size : Int) ≤ 9 := by omega
  have hj : ¬ (1 : Int) < s.size := by omega
  have hp : (0 : Int) < s.size := by omega
  go_enter Tryd.func42, Tryd.ntmps42
  go_wp2
  go_loop [4, 26] (fun n i => ∃ k m : Nat, k ≤ s.size ∧ i = .int .i64 k ∧ n = .int .i64 m ∧ m < 10 ^ k ∧ Hid (decF m (s.data.toList.drop k) = decV s)) (fun _ i => s.size - (intOf i).toNat)
  case atStart => exact ⟨0, 0, by omega, rfl, rfl, by decide, by show _ = _; rw [HV.out]; rfl⟩
  case round =>
    obtain ⟨k, m, hk, rfl, rfl, hm, HK⟩ := hrel
    by_cases hlt : k < s.size
    · have hstep := decF_step s m k hlt
      have k0 : (0 : Int) ≤ k := by omega
      have k1 : (k : Int) < s.size := by omega
      have kn : ((k : Int).toNat) = k := Int.toNat_natCast k
      by_cases c1 : (s[k]'hlt).toNat < 48
      · have HE : Hid (decV s = none) := by show _ = _; rw [← HK.out, hstep, if_neg (by omega)]
        have ci : ((s[k]'hlt).toNat : Int) < 48 := by omega
        clear hstep
        go_wp2
        go_ret2
        exact ⟨by rw [HE.out]; rfl, rfl⟩
      · by_cases c2 : 57 < (s[k]'hlt).toNat
        · have HE : Hid (decV s = none) := by show _ = _; rw [← HK.out, hstep, if_neg (by omega)]
          have ci : ¬ ((s[k]'hlt).toNat : Int) < 48 := by omega
          have cj : (57 : Int) < ((s[k]'hlt).toNat : Int) := by omega
          clear hstep
          go_wp2
          go_ret2
          exact ⟨by rw [HE.out]; rfl, rfl⟩
        · have HE : Hid (decF (10 * m + ((s[k]'hlt).toNat - 48)) (s.data.toList.drop (k + 1)) = decV s) := by show _ = _; rw [← HK.out, hstep, if_pos ⟨by omega, by omega⟩]
          have ci : ¬ ((s[k]'hlt).toNat : Int) < 48 := by omega
          have cj : ¬ (57 : Int) < ((s[k]'hlt).toNat : Int) := by omega
          clear hstep
          have hp9 : m < 1000000000 := Nat.lt_of_lt_of_le hm (pow9 (by omega))
          have hpw : 10 * m + ((s[k]'hlt).toNat - 48) < 10 ^ (k + 1) := by rw [Nat.pow_succ]; omega
          have hvv : wrap64 (wrap64 (10 * (m : Int)) + (((s[k]'hlt).toNat : Int) - 48)) = ((10 * m + ((s[k]'hlt).toNat - 48) : Nat) : Int) := by
            rw [IntWalk.wrap64_in (10 * (m : Int)) ⟨by omega, by omega⟩, IntWalk.wrap64_in _ ⟨by omega, by omega⟩]
            omega
          have HVV := Lib.hid hvv
          clear hp9 hvv
          go_wp2
          refine ⟨⟨k + 1, 10 * m + ((s[k]'hlt).toNat - 48), by omega, by go_num, by rw [HVV.out], hpw, HE⟩, ?_⟩
          simp [intOf]; omega
    · obtain rfl : k = s.size := by omega
      have HE : Hid (decV s = some m) := by show _ = _; rw [← HK.out, decF_end s m _ rfl]
      have hd : decide ((s.size : Int) < s.size) = false := by simp
      go_wp2
      go_ret2
      exact ⟨by rw [HE.out]; rfl, rfl⟩

theorem decimal_any (s : ByteArray) (w : World) : Calls Tryd.prog 42 #[.string s] w fun e w' => e = decR (decV s) ∧ w = w' := by
  by_cases h0 : s.size = 0
  · exact decimal_empty s w h0
  by_cases h9 : 9 < s.size
  · exact decimal_long s w h9
  by_cases h1 : s.size = 1
  · exact decimal_single s w (by omega) h1
  by_cases hz : (s[0]'(by omega)).toNat = 48
  · exact decimal_zero s w (by omega) (by omega) hz
  · exact decimal_one s w (by omega) (by omega) hz
end Go.Proofs.YtnnmmkimdknbgaaDoor
