/- The contracts of costs.valueOf and tableOf. -/
import Derived.Test.YtnnmmkimdknbgaaDoorTg
namespace Go.Proofs.YtnnmmkimdknbgaaDoor
open Go.RowKit
set_option linter.unusedVariables false

def restL (line name : ByteArray) : List UInt8 := Lib.trimPrefix line.data.toList (name ++ ⟨#[32]⟩ : ByteArray).data.toList
/-- The value of a line that begins with a name. -/
def valV (line name : ByteArray) : Option Nat :=
  if Lib.hasPrefix line.data.toList (name ++ ⟨#[32]⟩ : ByteArray).data.toList = true ∧ Lib.hasSuffix (restL line name) [10] = true then decV ⟨(Lib.trimSuffix (restL line name) [10]).toArray⟩ else none
theorem restL_len (line name : ByteArray) : (restL line name).length ≤ line.size := by
  have h : line.size = line.data.toList.length := rfl
  unfold restL Lib.trimPrefix
  split
  · rw [List.length_drop]; omega
  · omega

set_option maxHeartbeats 1000000 in
set_option maxRecDepth 100000 in
theorem valueof_any (line name : ByteArray) (hl : line.size ≤ 65536) (hn : name.size ≤ 10) (w : World) : Calls Tryd.prog 26 #[.string line, .string name] w fun e w' => e = decR (valV line name) ∧ w = w' := by
  have n1 : ¬ 9223372036854775807 < name.size + 1 := by omega
  have HL : Hid ((⟨(restL line name).toArray⟩ : ByteArray).size ≤ 9223372036854775807) := by
    have := restL_len line name
    show (restL line name).toArray.size ≤ _
    rw [List.size_toArray]; omega
  have HP := Lib.hid (Tryd.strings_CutPrefix line (name ++ ⟨#[32]⟩) w)
  have HS := Lib.hid (Tryd.strings_CutSuffix ⟨(restL line name).toArray⟩ ⟨#[10]⟩ w HL.out)
  have hv : valV line name = if Lib.hasPrefix line.data.toList (name ++ ⟨#[32]⟩ : ByteArray).data.toList = true ∧ Lib.hasSuffix (restL line name) [10] = true then decV ⟨(Lib.trimSuffix (restL line name) [10]).toArray⟩ else none := rfl
  have eP : Lib.trimPrefix line.data.toList (name ++ ⟨#[32]⟩ : ByteArray).data.toList = restL line name := rfl
  have eS : (⟨#[10]⟩ : ByteArray).data.toList = [10] := rfl
  have eR : (⟨(restL line name).toArray⟩ : ByteArray).data.toList = restL line name := rfl
  rw [eP] at HP
  rw [eS, eR] at HS
  generalize Lib.hasPrefix line.data.toList (name ++ ⟨#[32]⟩ : ByteArray).data.toList = np at HP hv
  generalize Lib.hasSuffix (restL line name) [10] = ns at HS hv
  generalize Lib.trimSuffix (restL line name) [10] = dg at HS hv
  generalize restL line name = rs at HP HS HL
  generalize valV line name = res at hv ⊢
  clear hl hn eP eS eR
  cases np
  · have HR : Hid (res = none) := by show _ = _; rw [hv]; simp
    clear hv
    go_enter Tryd.func26, Tryd.ntmps26
    go_wp2_with (first
      | (go_at_call 40; refine HP.out.mono ?_; rintro e w' ⟨rfl, rfl⟩)
      | (go_at_call 41; refine HS.out.mono ?_; rintro e w' ⟨rfl, rfl⟩))
    go_ret2
    exact ⟨by rw [HR.out]; rfl, rfl⟩
  · cases ns
    · have HR : Hid (res = none) := by show _ = _; rw [hv]; simp
      clear hv
      go_enter Tryd.func26, Tryd.ntmps26
      go_wp2_with (first
        | (go_at_call 40; refine HP.out.mono ?_; rintro e w' ⟨rfl, rfl⟩)
        | (go_at_call 41; refine HS.out.mono ?_; rintro e w' ⟨rfl, rfl⟩))
      go_ret2
      exact ⟨by rw [HR.out]; rfl, rfl⟩
    · have HR : Hid (res = decV ⟨dg.toArray⟩) := by show _ = _; rw [hv]; simp
      clear hv
      have HD : Hid (Calls Tryd.prog 42 #[.string ⟨dg.toArray⟩] w fun e w' => e = .returned (.tuple #[.int .i64 (((decV ⟨dg.toArray⟩).getD 0 : Nat) : Int), .bool (decV ⟨dg.toArray⟩).isSome]) ∧ w = w') := decimal_any ⟨dg.toArray⟩ w
      go_enter Tryd.func26, Tryd.ntmps26
      go_wp2_with (first
        | (go_at_call 40; refine HP.out.mono ?_; rintro e w' ⟨rfl, rfl⟩)
        | (go_at_call 41; refine HS.out.mono ?_; rintro e w' ⟨rfl, rfl⟩)
        | (go_at_call 42; refine HD.out.mono ?_; rintro e w' ⟨rfl, rfl⟩))
      go_ret2
      exact ⟨by rw [HR.out]; rfl, rfl⟩
end Go.Proofs.YtnnmmkimdknbgaaDoor
