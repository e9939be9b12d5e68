/- Timers: checkNew. -/
import Derived.Test.YtkjokmfhmppinaaOh
namespace Go.Proofs.Ytkjokmfhmppinaa
open Go.RowKit Go.Maps
set_option linter.unusedVariables false

def evV (k c p d v : Int) : Value := .agg #[.int .i64 k, .int .i64 c, .int .i64 p, .int .i64 d, .int .i64 v]
/-- The error of the owner and the event of a new timer. -/
def ckN (o k c p d : Int) : Int :=
  if o < 0 then 34 else if 64 ≤ o then 34 else if k < 1 then 17 else if 4 < k then 17 else if c < 0 then 34 else if p < 0 then 34 else if 255 < p then 34 else if d < -128 then 34 else if 127 < d then 34 else 0
set_option maxHeartbeats 4000000 in
theorem checknew_any (o k c p d v : Int) (W : World) : Calls Try.prog 40 #[.int .i64 o, evV k c p d v] W fun e w' => e = .returned (.int .i64 (ckN o k c p d)) ∧ Fr No W w' := by
  have HF : Hid (Fr No W (W.alloc (.cells #[.int .i64 k, .int .i64 c, .int .i64 p, .int .i64 d, .int .i64 v] 29))) := Fr.alloc _ _ _
  unfold evV
  by_cases ho : o < 0
  · have HV : Hid (ckN o k c p d = 34) := by show _ = _; unfold ckN; simp [ho]
    have d0 : decide (o < 0) = true := by simpa using ho
    clear ho
    go_enter Try.func40, Try.ntmps40
    go_wp2
    go_ret
    exact ⟨by rw [HV.out]; rfl, HF.out⟩
  by_cases ho2 : 64 ≤ o
  · have HV : Hid (ckN o k c p d = 34) := by show _ = _; unfold ckN; simp [ho, ho2]
    have n0 : decide (o < 0) = false := by simpa using ho
    have d1 : decide (64 ≤ o) = true := by simpa using ho2
    clear ho ho2
    go_enter Try.func40, Try.ntmps40
    go_wp2
    go_ret
    exact ⟨by rw [HV.out]; rfl, HF.out⟩
  by_cases hk : k < 1
  · have HV : Hid (ckN o k c p d = 17) := by show _ = _; unfold ckN; simp [ho, ho2, hk]
    have n0 : decide (o < 0) = false := by simpa using ho
    have n1 : decide (64 ≤ o) = false := by simpa using ho2
    have d2 : decide (k < 1) = true := by simpa using hk
    clear ho ho2 hk
    go_enter Try.func40, Try.ntmps40
    go_wp2
    go_ret
    exact ⟨by rw [HV.out]; rfl, HF.out⟩
  by_cases hk2 : 4 < k
  · have HV : Hid (ckN o k c p d = 17) := by show _ = _; unfold ckN; simp [ho, ho2, hk, hk2]
    have n0 : decide (o < 0) = false := by simpa using ho
    have n1 : decide (64 ≤ o) = false := by simpa using ho2
    have n2 : decide (k < 1) = false := by simpa using hk
    have d3 : decide (4 < k) = true := by simpa using hk2
    clear ho ho2 hk hk2
    go_enter Try.func40, Try.ntmps40
    go_wp2
    go_ret
    exact ⟨by rw [HV.out]; rfl, HF.out⟩
  by_cases hc : c < 0
  · have HV : Hid (ckN o k c p d = 34) := by show _ = _; unfold ckN; simp [ho, ho2, hk, hk2, hc]
    have n0 : decide (o < 0) = false := by simpa using ho
    have n1 : decide (64 ≤ o) = false := by simpa using ho2
    have n2 : decide (k < 1) = false := by simpa using hk
    have n3 : decide (4 < k) = false := by simpa using hk2
    have d4 : decide (c < 0) = true := by simpa using hc
    clear ho ho2 hk hk2 hc
    go_enter Try.func40, Try.ntmps40
    go_wp2
    go_ret
    exact ⟨by rw [HV.out]; rfl, HF.out⟩
  by_cases hp : p < 0
  · have HV : Hid (ckN o k c p d = 34) := by show _ = _; unfold ckN; simp [ho, ho2, hk, hk2, hc, hp]
    have n0 : decide (o < 0) = false := by simpa using ho
    have n1 : decide (64 ≤ o) = false := by simpa using ho2
    have n2 : decide (k < 1) = false := by simpa using hk
    have n3 : decide (4 < k) = false := by simpa using hk2
    have n4 : decide (c < 0) = false := by simpa using hc
    have d5 : decide (p < 0) = true := by simpa using hp
    clear ho ho2 hk hk2 hc hp
    go_enter Try.func40, Try.ntmps40
    go_wp2
    go_ret
    exact ⟨by rw [HV.out]; rfl, HF.out⟩
  by_cases hp2 : 255 < p
  · have HV : Hid (ckN o k c p d = 34) := by show _ = _; unfold ckN; simp [ho, ho2, hk, hk2, hc, hp, hp2]
    have n0 : decide (o < 0) = false := by simpa using ho
    have n1 : decide (64 ≤ o) = false := by simpa using ho2
    have n2 : decide (k < 1) = false := by simpa using hk
    have n3 : decide (4 < k) = false := by simpa using hk2
    have n4 : decide (c < 0) = false := by simpa using hc
    have n5 : decide (p < 0) = false := by simpa using hp
    have d6 : decide (255 < p) = true := by simpa using hp2
    clear ho ho2 hk hk2 hc hp hp2
    go_enter Try.func40, Try.ntmps40
    go_wp2
    go_ret
    exact ⟨by rw [HV.out]; rfl, HF.out⟩
  by_cases hd : d < -128
  · have HV : Hid (ckN o k c p d = 34) := by show _ = _; unfold ckN; simp [ho, ho2, hk, hk2, hc, hp, hp2, hd]
    have n0 : decide (o < 0) = false := by simpa using ho
    have n1 : decide (64 ≤ o) = false := by simpa using ho2
    have n2 : decide (k < 1) = false := by simpa using hk
    have n3 : decide (4 < k) = false := by simpa using hk2
    have n4 : decide (c < 0) = false := by simpa using hc
    have n5 : decide (p < 0) = false := by simpa using hp
    have n6 : decide (255 < p) = false := by simpa using hp2
    have d7 : decide (d < -128) = true := by simpa using hd
    clear ho ho2 hk hk2 hc hp hp2 hd
    go_enter Try.func40, Try.ntmps40
    go_wp2
    go_ret
    exact ⟨by rw [HV.out]; rfl, HF.out⟩
  by_cases hd2 : 127 < d
  · have HV : Hid (ckN o k c p d = 34) := by show _ = _; unfold ckN; simp [ho, ho2, hk, hk2, hc, hp, hp2, hd, hd2]
    have n0 : decide (o < 0) = false := by simpa using ho
    have n1 : decide (64 ≤ o) = false := by simpa using ho2
    have n2 : decide (k < 1) = false := by simpa using hk
    have n3 : decide (4 < k) = false := by simpa using hk2
    have n4 : decide (c < 0) = false := by simpa using hc
    have n5 : decide (p < 0) = false := by simpa using hp
    have n6 : decide (255 < p) = false := by simpa using hp2
    have n7 : decide (d < -128) = false := by simpa using hd
    have d8 : decide (127 < d) = true := by simpa using hd2
    clear ho ho2 hk hk2 hc hp hp2 hd hd2
    go_enter Try.func40, Try.ntmps40
    go_wp2
    go_ret
    exact ⟨by rw [HV.out]; rfl, HF.out⟩
  have HV : Hid (ckN o k c p d = 0) := by show _ = _; unfold ckN; simp [ho, ho2, hk, hk2, hc, hp, hp2, hd, hd2]
  have n0 : decide (o < 0) = false := by simpa using ho
  have n1 : decide (64 ≤ o) = false := by simpa using ho2
  have n2 : decide (k < 1) = false := by simpa using hk
  have n3 : decide (4 < k) = false := by simpa using hk2
  have n4 : decide (c < 0) = false := by simpa using hc
  have n5 : decide (p < 0) = false := by simpa using hp
  have n6 : decide (255 < p) = false := by simpa using hp2
  have n7 : decide (d < -128) = false := by simpa using hd
  have n8 : decide (127 < d) = false := by simpa using hd2
  clear ho ho2 hk hk2 hc hp hp2 hd hd2
  go_enter Try.func40, Try.ntmps40
  go_wp2
  go_ret
  exact ⟨by rw [HV.out]; rfl, HF.out⟩

end Go.Proofs.Ytkjokmfhmppinaa
