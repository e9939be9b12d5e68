/- Interrupts: checkNew. -/
import Derived.Test.YtbnchmhhhildnaaXl
namespace Go.Proofs.Ytbnchmhhhildnaa
open Go.RowKit Go.Maps
set_option linter.unusedVariables false

def evV (k c p d v : Int) : Value := .agg #[.int .i64 k, .int .i64 c, .int .i64 p, .int .i64 d, .int .i64 v]
/-- The error of the thread and the event of a new attachment. -/
def ckN (o k c p d : Int) : Int :=
  if isTh o = false then 34 else if k < 0 then 17 else if 4 < k then 17 else if c < 0 then 34 else if k = 4 ∧ isTh c = false then 34 else if p < 0 then 34 else if 255 < p then 34 else if d < -128 then 34 else if 127 < d then 34 else 0
set_option maxHeartbeats 4000000 in
theorem checknew_any (o k c p d v : Int) (W : World) : Calls Try.prog 47 #[.int .i64 o, evV k c p d v] W fun e w' => e = .returned (.int .i64 (ckN o k c p d)) ∧ Fr No W w' := by
  have HF : Hid (Fr No W (W.alloc (.cells #[.int .i64 k, .int .i64 c, .int .i64 p, .int .i64 d, .int .i64 v] 32))) := Fr.alloc _ _ _
  have HT := Lib.hid (isthread_any o)
  have HC := Lib.hid (isthread_any c)
  unfold evV
  by_cases ho : isTh o = false
  · have HV : Hid (ckN o k c p d = 34) := by show _ = _; unfold ckN; rw [if_pos ho]
    rw [ho] at HT
    clear ho
    go_enter Try.func47, Try.ntmps47
    go_wp2_with (first
      | (go_at_call 51; refine (HT.out _).mono ?_; clear HT; rintro e w2 ⟨rfl, f2⟩; subst f2)
      | (go_at_call 51; refine (HC.out _).mono ?_; clear HC; rintro e w2 ⟨rfl, f2⟩; subst f2))
    go_ret
    exact ⟨by rw [HV.out]; rfl, HF.out⟩
  have ho1 : isTh o = true := by simpa using ho
  rw [ho1] at HT
  clear ho
  by_cases hk : k < 0
  · have HV : Hid (ckN o k c p d = 17) := by show _ = _; unfold ckN; simp [ho1, hk]
    have qhk : decide (k < 0) = true := by simpa using hk
    clear ho1 hk
    go_enter Try.func47, Try.ntmps47
    go_wp2_with (first
      | (go_at_call 51; refine (HT.out _).mono ?_; clear HT; rintro e w2 ⟨rfl, f2⟩; subst f2)
      | (go_at_call 51; refine (HC.out _).mono ?_; clear HC; rintro e w2 ⟨rfl, f2⟩; subst f2))
    go_ret
    exact ⟨by rw [HV.out]; rfl, HF.out⟩
  by_cases hk2 : 4 < k
  · have HV : Hid (ckN o k c p d = 17) := by show _ = _; unfold ckN; simp [ho1, hk, hk2]
    have qhk : decide (k < 0) = false := by simpa using hk
    have qhk2 : decide (4 < k) = true := by simpa using hk2
    clear ho1 hk hk2
    go_enter Try.func47, Try.ntmps47
    go_wp2_with (first
      | (go_at_call 51; refine (HT.out _).mono ?_; clear HT; rintro e w2 ⟨rfl, f2⟩; subst f2)
      | (go_at_call 51; refine (HC.out _).mono ?_; clear HC; rintro e w2 ⟨rfl, f2⟩; subst f2))
    go_ret
    exact ⟨by rw [HV.out]; rfl, HF.out⟩
  by_cases hc : c < 0
  · have HV : Hid (ckN o k c p d = 34) := by show _ = _; unfold ckN; simp [ho1, hk, hk2, hc]
    have qhk : decide (k < 0) = false := by simpa using hk
    have qhk2 : decide (4 < k) = false := by simpa using hk2
    have qhc : decide (c < 0) = true := by simpa using hc
    clear ho1 hk hk2 hc
    go_enter Try.func47, Try.ntmps47
    go_wp2_with (first
      | (go_at_call 51; refine (HT.out _).mono ?_; clear HT; rintro e w2 ⟨rfl, f2⟩; subst f2)
      | (go_at_call 51; refine (HC.out _).mono ?_; clear HC; rintro e w2 ⟨rfl, f2⟩; subst f2))
    go_ret
    exact ⟨by rw [HV.out]; rfl, HF.out⟩
  by_cases h4 : k = 4
  · by_cases he : isTh c = false
    · have HV : Hid (ckN o k c p d = 34) := by show _ = _; unfold ckN; simp [ho1, hc, h4, he]
      have qhk : decide (k < 0) = false := by simpa using hk
      have qhk2 : decide (4 < k) = false := by simpa using hk2
      have qhc : decide (c < 0) = false := by simpa using hc
      have h5 : (k == 4) = true := by simpa using h4
      rw [he] at HC
      clear ho1 hk hk2 hc h4 he
      go_enter Try.func47, Try.ntmps47
      go_wp2_with (first
        | (go_at_call 51; refine (HT.out _).mono ?_; clear HT; rintro e w2 ⟨rfl, f2⟩; subst f2)
        | (go_at_call 51; refine (HC.out _).mono ?_; clear HC; rintro e w2 ⟨rfl, f2⟩; subst f2))
      go_ret
      exact ⟨by rw [HV.out]; rfl, HF.out⟩
    · have he1 : isTh c = true := by simpa using he
      by_cases hp : p < 0
      · have HV : Hid (ckN o k c p d = 34) := by show _ = _; unfold ckN; simp [ho1, hc, h4, he1, hp]
        have qhk : decide (k < 0) = false := by simpa using hk
        have qhk2 : decide (4 < k) = false := by simpa using hk2
        have qhc : decide (c < 0) = false := by simpa using hc
        have h5 : (k == 4) = true := by simpa using h4
        rw [he1] at HC
        have qhp : decide (p < 0) = true := by simpa using hp
        clear ho1 hk hk2 hc h4 he1 hp
        go_enter Try.func47, Try.ntmps47
        go_wp2_with (first
          | (go_at_call 51; refine (HT.out _).mono ?_; clear HT; rintro e w2 ⟨rfl, f2⟩; subst f2)
          | (go_at_call 51; refine (HC.out _).mono ?_; clear HC; rintro e w2 ⟨rfl, f2⟩; subst f2))
        go_ret
        exact ⟨by rw [HV.out]; rfl, HF.out⟩
      by_cases hp2 : 255 < p
      · have HV : Hid (ckN o k c p d = 34) := by show _ = _; unfold ckN; simp [ho1, hc, h4, he1, hp, hp2]
        have qhk : decide (k < 0) = false := by simpa using hk
        have qhk2 : decide (4 < k) = false := by simpa using hk2
        have qhc : decide (c < 0) = false := by simpa using hc
        have h5 : (k == 4) = true := by simpa using h4
        rw [he1] at HC
        have qhp : decide (p < 0) = false := by simpa using hp
        have qhp2 : decide (255 < p) = true := by simpa using hp2
        clear ho1 hk hk2 hc h4 he1 hp hp2
        go_enter Try.func47, Try.ntmps47
        go_wp2_with (first
          | (go_at_call 51; refine (HT.out _).mono ?_; clear HT; rintro e w2 ⟨rfl, f2⟩; subst f2)
          | (go_at_call 51; refine (HC.out _).mono ?_; clear HC; rintro e w2 ⟨rfl, f2⟩; subst f2))
        go_ret
        exact ⟨by rw [HV.out]; rfl, HF.out⟩
      by_cases hd : d < -128
      · have HV : Hid (ckN o k c p d = 34) := by show _ = _; unfold ckN; simp [ho1, hc, h4, he1, hp, hp2, hd]
        have qhk : decide (k < 0) = false := by simpa using hk
        have qhk2 : decide (4 < k) = false := by simpa using hk2
        have qhc : decide (c < 0) = false := by simpa using hc
        have h5 : (k == 4) = true := by simpa using h4
        rw [he1] at HC
        have qhp : decide (p < 0) = false := by simpa using hp
        have qhp2 : decide (255 < p) = false := by simpa using hp2
        have qhd : decide (d < -128) = true := by simpa using hd
        clear ho1 hk hk2 hc h4 he1 hp hp2 hd
        go_enter Try.func47, Try.ntmps47
        go_wp2_with (first
          | (go_at_call 51; refine (HT.out _).mono ?_; clear HT; rintro e w2 ⟨rfl, f2⟩; subst f2)
          | (go_at_call 51; refine (HC.out _).mono ?_; clear HC; rintro e w2 ⟨rfl, f2⟩; subst f2))
        go_ret
        exact ⟨by rw [HV.out]; rfl, HF.out⟩
      by_cases hd2 : 127 < d
      · have HV : Hid (ckN o k c p d = 34) := by show _ = _; unfold ckN; simp [ho1, hc, h4, he1, hp, hp2, hd, hd2]
        have qhk : decide (k < 0) = false := by simpa using hk
        have qhk2 : decide (4 < k) = false := by simpa using hk2
        have qhc : decide (c < 0) = false := by simpa using hc
        have h5 : (k == 4) = true := by simpa using h4
        rw [he1] at HC
        have qhp : decide (p < 0) = false := by simpa using hp
        have qhp2 : decide (255 < p) = false := by simpa using hp2
        have qhd : decide (d < -128) = false := by simpa using hd
        have qhd2 : decide (127 < d) = true := by simpa using hd2
        clear ho1 hk hk2 hc h4 he1 hp hp2 hd hd2
        go_enter Try.func47, Try.ntmps47
        go_wp2_with (first
          | (go_at_call 51; refine (HT.out _).mono ?_; clear HT; rintro e w2 ⟨rfl, f2⟩; subst f2)
          | (go_at_call 51; refine (HC.out _).mono ?_; clear HC; rintro e w2 ⟨rfl, f2⟩; subst f2))
        go_ret
        exact ⟨by rw [HV.out]; rfl, HF.out⟩
      have HV : Hid (ckN o k c p d = 0) := by show _ = _; unfold ckN; simp [ho1, hc, h4, he1, hp, hp2, hd, hd2]
      have qhk : decide (k < 0) = false := by simpa using hk
      have qhk2 : decide (4 < k) = false := by simpa using hk2
      have qhc : decide (c < 0) = false := by simpa using hc
      have h5 : (k == 4) = true := by simpa using h4
      rw [he1] at HC
      have qhp : decide (p < 0) = false := by simpa using hp
      have qhp2 : decide (255 < p) = false := by simpa using hp2
      have qhd : decide (d < -128) = false := by simpa using hd
      have qhd2 : decide (127 < d) = false := by simpa using hd2
      clear ho1 hk hk2 hc h4 he1 hp hp2 hd hd2
      go_enter Try.func47, Try.ntmps47
      go_wp2_with (first
        | (go_at_call 51; refine (HT.out _).mono ?_; clear HT; rintro e w2 ⟨rfl, f2⟩; subst f2)
        | (go_at_call 51; refine (HC.out _).mono ?_; clear HC; rintro e w2 ⟨rfl, f2⟩; subst f2))
      go_ret
      exact ⟨by rw [HV.out]; rfl, HF.out⟩
  · have h5 : (k == 4) = false := by simpa using h4
    by_cases hp : p < 0
    · have HV : Hid (ckN o k c p d = 34) := by show _ = _; unfold ckN; simp [ho1, hk, hk2, hc, h4, hp]
      have qhk : decide (k < 0) = false := by simpa using hk
      have qhk2 : decide (4 < k) = false := by simpa using hk2
      have qhc : decide (c < 0) = false := by simpa using hc
      have qhp : decide (p < 0) = true := by simpa using hp
      clear ho1 hk hk2 hc h4 hp
      go_enter Try.func47, Try.ntmps47
      go_wp2_with (first
        | (go_at_call 51; refine (HT.out _).mono ?_; clear HT; rintro e w2 ⟨rfl, f2⟩; subst f2)
        | (go_at_call 51; refine (HC.out _).mono ?_; clear HC; rintro e w2 ⟨rfl, f2⟩; subst f2))
      go_ret
      exact ⟨by rw [HV.out]; rfl, HF.out⟩
    by_cases hp2 : 255 < p
    · have HV : Hid (ckN o k c p d = 34) := by show _ = _; unfold ckN; simp [ho1, hk, hk2, hc, h4, hp, hp2]
      have qhk : decide (k < 0) = false := by simpa using hk
      have qhk2 : decide (4 < k) = false := by simpa using hk2
      have qhc : decide (c < 0) = false := by simpa using hc
      have qhp : decide (p < 0) = false := by simpa using hp
      have qhp2 : decide (255 < p) = true := by simpa using hp2
      clear ho1 hk hk2 hc h4 hp hp2
      go_enter Try.func47, Try.ntmps47
      go_wp2_with (first
        | (go_at_call 51; refine (HT.out _).mono ?_; clear HT; rintro e w2 ⟨rfl, f2⟩; subst f2)
        | (go_at_call 51; refine (HC.out _).mono ?_; clear HC; rintro e w2 ⟨rfl, f2⟩; subst f2))
      go_ret
      exact ⟨by rw [HV.out]; rfl, HF.out⟩
    by_cases hd : d < -128
    · have HV : Hid (ckN o k c p d = 34) := by show _ = _; unfold ckN; simp [ho1, hk, hk2, hc, h4, hp, hp2, hd]
      have qhk : decide (k < 0) = false := by simpa using hk
      have qhk2 : decide (4 < k) = false := by simpa using hk2
      have qhc : decide (c < 0) = false := by simpa using hc
      have qhp : decide (p < 0) = false := by simpa using hp
      have qhp2 : decide (255 < p) = false := by simpa using hp2
      have qhd : decide (d < -128) = true := by simpa using hd
      clear ho1 hk hk2 hc h4 hp hp2 hd
      go_enter Try.func47, Try.ntmps47
      go_wp2_with (first
        | (go_at_call 51; refine (HT.out _).mono ?_; clear HT; rintro e w2 ⟨rfl, f2⟩; subst f2)
        | (go_at_call 51; refine (HC.out _).mono ?_; clear HC; rintro e w2 ⟨rfl, f2⟩; subst f2))
      go_ret
      exact ⟨by rw [HV.out]; rfl, HF.out⟩
    by_cases hd2 : 127 < d
    · have HV : Hid (ckN o k c p d = 34) := by show _ = _; unfold ckN; simp [ho1, hk, hk2, hc, h4, hp, hp2, hd, hd2]
      have qhk : decide (k < 0) = false := by simpa using hk
      have qhk2 : decide (4 < k) = false := by simpa using hk2
      have qhc : decide (c < 0) = false := by simpa using hc
      have qhp : decide (p < 0) = false := by simpa using hp
      have qhp2 : decide (255 < p) = false := by simpa using hp2
      have qhd : decide (d < -128) = false := by simpa using hd
      have qhd2 : decide (127 < d) = true := by simpa using hd2
      clear ho1 hk hk2 hc h4 hp hp2 hd hd2
      go_enter Try.func47, Try.ntmps47
      go_wp2_with (first
        | (go_at_call 51; refine (HT.out _).mono ?_; clear HT; rintro e w2 ⟨rfl, f2⟩; subst f2)
        | (go_at_call 51; refine (HC.out _).mono ?_; clear HC; rintro e w2 ⟨rfl, f2⟩; subst f2))
      go_ret
      exact ⟨by rw [HV.out]; rfl, HF.out⟩
    have HV : Hid (ckN o k c p d = 0) := by show _ = _; unfold ckN; simp [ho1, hk, hk2, hc, h4, hp, hp2, hd, hd2]
    have qhk : decide (k < 0) = false := by simpa using hk
    have qhk2 : decide (4 < k) = false := by simpa using hk2
    have qhc : decide (c < 0) = false := by simpa using hc
    have qhp : decide (p < 0) = false := by simpa using hp
    have qhp2 : decide (255 < p) = false := by simpa using hp2
    have qhd : decide (d < -128) = false := by simpa using hd
    have qhd2 : decide (127 < d) = false := by simpa using hd2
    clear ho1 hk hk2 hc h4 hp hp2 hd hd2
    go_enter Try.func47, Try.ntmps47
    go_wp2_with (first
      | (go_at_call 51; refine (HT.out _).mono ?_; clear HT; rintro e w2 ⟨rfl, f2⟩; subst f2)
      | (go_at_call 51; refine (HC.out _).mono ?_; clear HC; rintro e w2 ⟨rfl, f2⟩; subst f2))
    go_ret
    exact ⟨by rw [HV.out]; rfl, HF.out⟩
end Go.Proofs.Ytbnchmhhhildnaa
