/- PartitionPlays: step. -/
import Derived.Test.YtbjpaemldnoinaaHj
import Derived.Test.YtbjpaemldnoinaaMl
import Derived.Test.YtbjpaemldnoinaaMm
import Derived.Deep.RegionHeld3
namespace Go.Proofs.Ytbjpaemldnoinaa
open Go.RowKit
set_option linter.unusedVariables false

theorem PE.more {W0 W : World} {B lo G w p m : Nat} {P : List (Int × Int)} (h : PE W0 B lo G w p P m W) : PE W0 B lo G w p P (m + 1) W := by
  obtain ⟨T, L, hl, h⟩ := h; exact ⟨T, L, by omega, h⟩
set_option maxRecDepth 100000 in
set_option maxHeartbeats 4000000 in
theorem step_two {W0 W : World} {B lo G w p m : Nat} {P : List (Int × Int)} (h : PE W0 B lo G w p P m W) (hm : m ≤ 100) (hok : cfgV w p P = 0) (d gp raw a b : Int) (c : Bool) (now : Int) (hd0 : 0 ≤ d) (hd1 : d < 256) : Calls Try.prog 24 #[.pointer (some ⟨B, 0, none⟩), .pointer (some ⟨G, 0, none⟩), .agg (actM d gp raw a b c), .int .i64 now] W fun e w' => e = .returned (.bool true) ∧ PE W0 B lo G w p P (m + 1) w' := by
  have HR := Lib.hid (RowAt.new W 56 (actM d gp raw a b c))
  have hf : Fr (fun _ => False) W (W.alloc (.cells (actM d gp raw a b c) 56)) := Fr.alloc _ _ _
  have HH := Lib.hid (h.rest hf)
  have hG : G < W.heap.size := by obtain ⟨T, L, _, h⟩ := h; exact h.r.facts.2.1
  have HX := Lib.hid ((h.nx (Nat.le_refl W.heap.size)).rest hG hf)
  have HM := Lib.hid hm
  have HOK := Lib.hid hok
  clear h hm hok hG hf
  unfold actM at HR HH HX ⊢
  go_enter Try.func24, Try.ntmps24
  go_upto_region 1 with (fail)
  generalize World.alloc W _ = W1 at HR HH HX ⊢
  generalize W.heap.size = x at HR HX ⊢
  have c0 : W1.cell? ⟨x, 0, none⟩ = some (.int .u8 d) := HR.out.cell 0
  have c3 : W1.cell? ⟨x, 3, none⟩ = some (.int .i64 a) := HR.out.cell 3
  have c4 : W1.cell? ⟨x, 4, none⟩ = some (.int .i64 b) := HR.out.cell 4
  have c5 : W1.cell? ⟨x, 5, none⟩ = some (.bool c) := HR.out.cell 5
  have HK : Hid (∀ W2, Fr (fun k => k ≠ x) W1 W2 → W2.cell? ⟨x, 3, none⟩ = some (.int .i64 a) ∧ W2.cell? ⟨x, 4, none⟩ = some (.int .i64 b) ∧ W2.cell? ⟨x, 5, none⟩ = some (.bool c)) := fun W2 f => by
    have := HR.out.fr f (fun e => e rfl)
    exact ⟨this.cell 3, this.cell 4, this.cell 5⟩
  have HKd : Hid (∀ W2, Fr (fun k => k ≠ x) W1.drew W2 → W2.cell? ⟨x, 3, none⟩ = some (.int .i64 a) ∧ W2.cell? ⟨x, 5, none⟩ = some (.bool c)) := fun W2 f => by
    have := (show RowAt W1.drew x _ _ from HR.out).fr f (fun e => e rfl)
    exact ⟨this.cell 3, this.cell 5⟩
  have hxd : d % 7 = 2 ∨ d % 7 = 3 ∨ d % 7 = 4 ∨ d % 7 = 5 ∨ d % 7 = 6 ∨ (d % 7 ≠ 2 ∧ d % 7 ≠ 3 ∧ d % 7 ≠ 4 ∧ d % 7 ≠ 5 ∧ d % 7 ≠ 6) := by omega
  rcases hxd with hx | hx | hx | hx | hx | ⟨n2, n3, n4, n5, n6⟩
  · obtain ⟨r, z, M, hA, hB⟩ := pj_used HH.out HM.out HX.out now a
    have HA := Lib.hid hA
    have HB := Lib.hid hB
    have hs1 : (r == r) = true := by simp
    have hs2 : (z == z) = true := by simp
    clear hA hB
    go_wp2_with (first
      | (go_at_call 29; refine HA.out.mono ?_; rintro e W2 ⟨rfl, f2, m2⟩; obtain ⟨d3, d4, d5⟩ := HK.out W2 f2; have M2 := Lib.hid m2; clear f2 m2 c3 c4 c5)
      | (go_at_call 52; refine (HB.out _ M2.out).mono ?_; rintro e W3 ⟨rfl, f3, m3⟩; have M3 := Lib.hid m3; clear f3 m3))
    go_ret
    exact ⟨rfl, M3.out.more⟩
  · obtain ⟨r, z, M, hA, hB⟩ := pj_ucrit HH.out HM.out HX.out now a
    have HA := Lib.hid hA
    have HB := Lib.hid hB
    have hs1 : (r == r) = true := by simp
    have hs2 : (z == z) = true := by simp
    clear hA hB
    go_wp2_with (first
      | (go_at_call 30; refine HA.out.mono ?_; rintro e W2 ⟨rfl, f2, m2⟩; obtain ⟨d3, d4, d5⟩ := HK.out W2 f2; have M2 := Lib.hid m2; clear f2 m2 c3 c4 c5)
      | (go_at_call 53; refine (HB.out _ M2.out).mono ?_; rintro e W3 ⟨rfl, f3, m3⟩; have M3 := Lib.hid m3; clear f3 m3))
    go_ret
    exact ⟨rfl, M3.out.more⟩
  · obtain ⟨r, z, M, hA, hB⟩ := pj_has HH.out HM.out HX.out now a
    have HA := Lib.hid hA
    have HB := Lib.hid hB
    have hs1 : (r == r) = true := by simp
    have hs2 : (z == z) = true := by simp
    clear hA hB
    go_wp2_with (first
      | (go_at_call 27; refine HA.out.mono ?_; rintro e W2 ⟨rfl, f2, m2⟩; obtain ⟨d3, d4, d5⟩ := HK.out W2 f2; have M2 := Lib.hid m2; clear f2 m2 c3 c4 c5)
      | (go_at_call 54; refine (HB.out _ M2.out).mono ?_; rintro e W3 ⟨rfl, f3, m3⟩; have M3 := Lib.hid m3; clear f3 m3))
    go_ret
    exact ⟨rfl, M3.out.more⟩
  · obtain ⟨r, z, M, hA, hB⟩ := pj_bank HH.out HM.out HX.out now a
    have HA := Lib.hid hA
    have HB := Lib.hid hB
    have hs1 : (r == r) = true := by simp
    have hs2 : (z == z) = true := by simp
    clear hA hB
    go_wp2_with (first
      | (go_at_call 55; refine HA.out.mono ?_; rintro e W2 ⟨rfl, f2, m2⟩; obtain ⟨d3, d4, d5⟩ := HK.out W2 f2; have M2 := Lib.hid m2; clear f2 m2 c3 c4 c5)
      | (go_at_call 56; refine (HB.out _ M2.out).mono ?_; rintro e W3 ⟨rfl, f3, m3⟩; have M3 := Lib.hid m3; clear f3 m3))
    go_ret
    exact ⟨rfl, M3.out.more⟩
  · obtain ⟨r, z, M, hA, hB⟩ := pj_comp HH.out HM.out HX.out HOK.out now a b
    have HA := Lib.hid hA
    have HB := Lib.hid hB
    have hs1 : (r == r) = true := by simp
    have hs2 : (z == z) = true := by simp
    clear hA hB
    go_wp2_with (first
      | (go_at_call 31; refine HA.out.mono ?_; rintro e W2 ⟨rfl, f2, m2⟩; obtain ⟨d3, d4, d5⟩ := HK.out W2 f2; have M2 := Lib.hid m2; clear f2 m2 c3 c4 c5)
      | (go_at_call 57; refine (HB.out _ M2.out).mono ?_; rintro e W3 ⟨rfl, f3, m3⟩; have M3 := Lib.hid m3; clear f3 m3))
    go_ret
    exact ⟨rfl, M3.out.more⟩
  · have n2' : (d % 7 == 2) = false := by simpa using n2
    have n3' : (d % 7 == 3) = false := by simpa using n3
    have n4' : (d % 7 == 4) = false := by simpa using n4
    have n5' : (d % 7 == 5) = false := by simpa using n5
    have n6' : (d % 7 == 6) = false := by simpa using n6
    clear n2 n3 n4 n5 n6
    obtain ⟨z, M, hA, hB⟩ := pj_charge (HH.out.rest (Fr.drew (fun _ => False) W1)) HM.out (show NX B G x W1.drew from HX.out) now a c
    have HA := Lib.hid hA
    have HB := Lib.hid hB
    have hs1 : (z == z) = true := by simp
    clear hA hB
    go_upto_region 22 with (fail)
    clear n2' n3' n4' n5' n6' c0 c4
    go_region_held3 (fun w' => w'.cell? ⟨x, 3, none⟩ = some (.int .i64 a) ∧ w'.cell? ⟨x, 5, none⟩ = some (.bool c))
      (first | (with_reducible exact HKd.out _ F3.out) | (with_reducible exact HKd.out _ F2.out) | exact ⟨c3, c5⟩ | go_keep)
      (first
        | (go_at_call 28; refine HA.out.mono ?_; rintro e W2 ⟨rfl, f2, m2⟩; have F2 := Lib.hid f2; have M2 := Lib.hid m2; clear f2 m2)
        | (go_at_call 58; refine (HB.out _ M2.out).mono ?_; rintro e W3 ⟨rfl, f3, m3⟩; have F3 := Lib.hid (F2.out.trans f3); have M3 := Lib.hid m3; clear f3 m3))
    go_wp2
    go_ret
    exact ⟨rfl, M3.out⟩
end Go.Proofs.Ytbjpaemldnoinaa
