/- ReadyPlays: change. -/
import Derived.Test.YtbjpaemldnoinaaQl
import Derived.Deep.RegionHeld3
namespace Go.Proofs.Ytbjpaemldnoinaa
open Go.RowKit
set_option linter.unusedVariables false

def actV (x : ActR) : Array Value := #[.int .u8 x.d, .int .i64 x.t, .int .i64 x.p, .int .i64 x.m, .int .i64 x.n, .bool x.f]
/-- The call's cells lie in block b. -/
def CX (b : Nat) (x : ActR) (w : World) : Prop := w.cell? ⟨b, 1, none⟩ = some (.int .i64 x.t) ∧ w.cell? ⟨b, 2, none⟩ = some (.int .i64 x.p) ∧ w.cell? ⟨b, 3, none⟩ = some (.int .i64 x.m) ∧ w.cell? ⟨b, 4, none⟩ = some (.int .i64 x.n) ∧ w.cell? ⟨b, 5, none⟩ = some (.bool x.f)
set_option maxRecDepth 100000 in
set_option maxHeartbeats 4000000 in
theorem change_any {W0 W : World} {B lo R : Nat} {ls : Nat → List Nat} {mk : Nat → Nat} (h : PlQ W0 B lo R ls mk W) (x : ActR) (hd0 : 0 ≤ x.d) (hd1 : x.d < 256) : Calls Try.prog 11 #[.pointer (some ⟨B, 0, none⟩), .pointer (some ⟨R, 0, none⟩), .agg (actV x)] W fun e w' => e = .returned (.bool true) ∧ PlE W0 B lo R w' := by
  obtain ⟨xd, xt, xp, xm, xn, xf⟩ := x
  have d0 : 0 ≤ xd := hd0
  have d1 : xd < 256 := hd1
  clear hd0 hd1
  have HR : Hid (RowAt (W.alloc (.cells #[.int .u8 xd, .int .i64 xt, .int .i64 xp, .int .i64 xm, .int .i64 xn, .bool xf] 32)) W.heap.size 32 #[.int .u8 xd, .int .i64 xt, .int .i64 xp, .int .i64 xm, .int .i64 xn, .bool xf]) := RowAt.new W _ _
  have HH := Lib.hid (h.rest (Fr.alloc (fun _ => False) W (.cells #[.int .u8 xd, .int .i64 xt, .int .i64 xp, .int .i64 xm, .int .i64 xn, .bool xf] 32)))
  have HX : Hid (B ≠ W.heap.size) := Nat.ne_of_lt h.a.lt
  have HXR : Hid (R ≠ W.heap.size ∧ ∃ v, W.cell? ⟨R, 0, none⟩ = some v ∧ ∀ k n c, v = .slice (some ⟨k, 0, none⟩) n c → k ≠ W.heap.size) := by
    obtain ⟨v, hq⟩ := h.b
    exact ⟨Nat.ne_of_lt hq.row.lt, v, hq.row.cell 0, fun k n c e => Nat.ne_of_lt (hq.own.lt k (by rw [e]; rfl)).2⟩
  have HXC : Hid ((W.alloc (.cells #[.int .u8 xd, .int .i64 xt, .int .i64 xp, .int .i64 xm, .int .i64 xn, .bool xf] 32)).cell? ⟨R, 0, none⟩ = W.cell? ⟨R, 0, none⟩ ∧ R < W.heap.size) := ⟨World.cell?_of_block (heap_alloc_old _ _ h.b.lo_le.2), h.b.lo_le.2⟩
  have HBR : Hid (B ≠ R ∧ B < R) := by have := h.lb; have := h.b.lo_le.1; exact ⟨by omega, by omega⟩
  have hmx : Try.prog.follows .mixedOrders = true := by kernel_rfl
  clear h
  show Calls _ _ #[.pointer (some ⟨B, 0, none⟩), .pointer (some ⟨R, 0, none⟩), .agg #[.int .u8 xd, .int .i64 xt, .int .i64 xp, .int .i64 xm, .int .i64 xn, .bool xf]] _ _
  go_enter Try.func11, Try.ntmps11
  go_upto_region 1 with (fail)
  generalize World.alloc W _ = W1 at HR HH HXC ⊢
  generalize W.heap.size = b at HR HX HXR HXC ⊢
  have c0 : W1.cell? ⟨b, 0, none⟩ = some (.int .u8 xd) := HR.out.cell 0
  have c1 : W1.cell? ⟨b, 1, none⟩ = some (.int .i64 xt) := HR.out.cell 1
  have c2 : W1.cell? ⟨b, 2, none⟩ = some (.int .i64 xp) := HR.out.cell 2
  have c3 : W1.cell? ⟨b, 3, none⟩ = some (.int .i64 xm) := HR.out.cell 3
  have c4 : W1.cell? ⟨b, 4, none⟩ = some (.int .i64 xn) := HR.out.cell 4
  have c5 : W1.cell? ⟨b, 5, none⟩ = some (.bool xf) := HR.out.cell 5
  have HK : Hid (∀ W2, W1.grownBy W2 (some B) → CX b ⟨xd, xt, xp, xm, xn, xf⟩ W2) := fun W2 g => by
    have := HR.out.fr (Fr.grown (S := fun k => k = B) g (fun k e => by injection e with e; exact e.symm)) (fun e => HX.out e.symm)
    exact ⟨this.cell 1, this.cell 2, this.cell 3, this.cell 4, this.cell 5⟩
  have hxd : xd % 9 = 0 ∨ xd % 9 = 1 ∨ xd % 9 = 2 ∨ xd % 9 = 3 ∨ xd % 9 = 4 ∨ xd % 9 = 5 ∨ xd % 9 = 6 ∨ xd % 9 = 7 ∨ xd % 9 = 8 := by
    omega
  have HHd := Lib.hid (HH.out.rest (Fr.drew (fun _ => False) W1))
  have HKd : Hid (∀ W2, W1.drew.grownBy W2 (some B) → CX b ⟨xd, xt, xp, xm, xn, xf⟩ W2) := fun W2 g => by
    have := (show RowAt W1.drew b _ _ from HR.out).fr (Fr.grown (S := fun k => k = B) g (fun k e => by injection e with e; exact e.symm)) (fun e => HX.out e.symm)
    exact ⟨this.cell 1, this.cell 2, this.cell 3, this.cell 4, this.cell 5⟩
  have HKr : Hid (∀ W2 W3, W1.drew.grownBy W2 (some B) → Fr (FP R W2) W2 W3 → CX b ⟨xd, xt, xp, xm, xn, xf⟩ W3) := fun W2 W3 g f => by
    have g' := Fr.grown (S := fun k => k = B) g (fun k e => by injection e with e; exact e.symm)
    have hr := (show RowAt W1.drew b _ _ from HR.out).fr g' (fun e => HX.out e.symm)
    have hc : W2.cell? ⟨R, 0, none⟩ = W1.cell? ⟨R, 0, none⟩ := World.cell?_of_block (g'.block R (Nat.lt_trans HXC.out.2 (show b < W1.heap.size from HR.out.lt)) (fun e => HBR.out.1 e.symm))
    obtain ⟨h1, v, h2, h3⟩ := HXR.out
    have := hr.fr f (fun e => by
      rcases e with e | e | ⟨n, c, e⟩
      · exact h1 e.symm
      · have := hr.lt; omega
      · rw [hc, HXC.out.1, h2] at e
        injection e with e
        exact h3 b n c e rfl)
    exact ⟨this.cell 1, this.cell 2, this.cell 3, this.cell 4, this.cell 5⟩
  rcases hxd with hx | hx | hx | hx | hx | hx | hx | hx | hx
  · have n0 : (xd % 9 == 0) = true := by simpa using hx
    clear hx
    obtain ⟨z, M, hA, hB⟩ := pl_add HHd.out xt xp xm xf
    have HA := Lib.hid hA
    have HB := Lib.hid hB
    have hs1 : (z == z) = true := by simp
    clear hA hB
    go_upto_region 4 with (fail)
    go_region_held3 (fun w' => w'.cell? ⟨b, 1, none⟩ = some (.int .i64 xt) ∧ w'.cell? ⟨b, 2, none⟩ = some (.int .i64 xp) ∧ w'.cell? ⟨b, 3, none⟩ = some (.int .i64 xm) ∧ w'.cell? ⟨b, 5, none⟩ = some (.bool xf))
      (first | exact ⟨c1, c2, c3, c5⟩ | exact ⟨q1, q2, q3, q5⟩ | exact ⟨r1, r2, r3, r5⟩ | go_keep)
      (first
        | (go_at_call 32; refine HA.out.mono ?_; rintro e W2 ⟨rfl, g2, m2⟩; obtain ⟨q1, q2, q3, q4, q5⟩ := HKd.out _ g2; have M2 := Lib.hid m2; have G2 := Lib.hid g2; clear g2 m2)
        | (go_at_call 35; refine (HB.out _ M2.out).mono ?_; rintro e W3 ⟨rfl, m3, f3⟩; obtain ⟨r1, r2, r3, r4, r5⟩ := HKr.out _ _ G2.out f3; have M3 := Lib.hid m3; clear m3 f3))
    go_wp2
    go_ret
    exact ⟨rfl, M3.out⟩
  · obtain ⟨z, M, hA, hB⟩ := pl_add HHd.out xt xp xm xf
    have HA := Lib.hid hA
    have HB := Lib.hid hB
    have hs1 : (z == z) = true := by simp
    clear hA hB
    go_upto_region 4 with (fail)
    go_region_held3 (fun w' => w'.cell? ⟨b, 1, none⟩ = some (.int .i64 xt) ∧ w'.cell? ⟨b, 2, none⟩ = some (.int .i64 xp) ∧ w'.cell? ⟨b, 3, none⟩ = some (.int .i64 xm) ∧ w'.cell? ⟨b, 5, none⟩ = some (.bool xf))
      (first | exact ⟨c1, c2, c3, c5⟩ | exact ⟨q1, q2, q3, q5⟩ | exact ⟨r1, r2, r3, r5⟩ | go_keep)
      (first
        | (go_at_call 32; refine HA.out.mono ?_; rintro e W2 ⟨rfl, g2, m2⟩; obtain ⟨q1, q2, q3, q4, q5⟩ := HKd.out _ g2; have M2 := Lib.hid m2; have G2 := Lib.hid g2; clear g2 m2)
        | (go_at_call 35; refine (HB.out _ M2.out).mono ?_; rintro e W3 ⟨rfl, m3, f3⟩; obtain ⟨r1, r2, r3, r4, r5⟩ := HKr.out _ _ G2.out f3; have M3 := Lib.hid m3; clear m3 f3))
    go_wp2
    go_ret
    exact ⟨rfl, M3.out⟩
  · obtain ⟨z, M, hA, hB⟩ := pl_remove HHd.out xt
    have HA := Lib.hid hA
    have HB := Lib.hid hB
    have hs1 : (z == z) = true := by simp
    clear hA hB
    go_upto_region 6 with (fail)
    go_region_held3 (fun w' => w'.cell? ⟨b, 1, none⟩ = some (.int .i64 xt))
      (first | exact c1 | exact q1 | exact r1 | go_keep)
      (first
        | (go_at_call 36; refine HA.out.mono ?_; rintro e W2 ⟨rfl, g2, m2⟩; obtain ⟨q1, q2, q3, q4, q5⟩ := HKd.out _ g2; have M2 := Lib.hid m2; have G2 := Lib.hid g2; clear g2 m2)
        | (go_at_call 37; refine (HB.out _ M2.out).mono ?_; rintro e W3 ⟨rfl, m3, f3⟩; obtain ⟨r1, r2, r3, r4, r5⟩ := HKr.out _ _ G2.out f3; have M3 := Lib.hid m3; clear m3 f3))
    go_wp2
    go_ret
    exact ⟨rfl, M3.out⟩
  · obtain ⟨z, M, hA, hB⟩ := pl_setprio HHd.out xt xp xf
    have HA := Lib.hid hA
    have HB := Lib.hid hB
    have hs1 : (z == z) = true := by simp
    clear hA hB
    go_upto_region 8 with (fail)
    go_region_held3 (fun w' => w'.cell? ⟨b, 1, none⟩ = some (.int .i64 xt) ∧ w'.cell? ⟨b, 2, none⟩ = some (.int .i64 xp) ∧ w'.cell? ⟨b, 5, none⟩ = some (.bool xf))
      (first | exact ⟨c1, c2, c5⟩ | exact ⟨q1, q2, q5⟩ | exact ⟨r1, r2, r5⟩ | go_keep)
      (first
        | (go_at_call 38; refine HA.out.mono ?_; rintro e W2 ⟨rfl, g2, m2⟩; obtain ⟨q1, q2, q3, q4, q5⟩ := HKd.out _ g2; have M2 := Lib.hid m2; have G2 := Lib.hid g2; clear g2 m2)
        | (go_at_call 39; refine (HB.out _ M2.out).mono ?_; rintro e W3 ⟨rfl, m3, f3⟩; obtain ⟨r1, r2, r3, r4, r5⟩ := HKr.out _ _ G2.out f3; have M3 := Lib.hid m3; clear m3 f3))
    go_wp2
    go_ret
    exact ⟨rfl, M3.out⟩
  · obtain ⟨z, M, hA, hB⟩ := pl_setmask HHd.out xt xm
    have HA := Lib.hid hA
    have HB := Lib.hid hB
    have hs1 : (z == z) = true := by simp
    clear hA hB
    go_upto_region 10 with (fail)
    go_region_held3 (fun w' => w'.cell? ⟨b, 1, none⟩ = some (.int .i64 xt) ∧ w'.cell? ⟨b, 3, none⟩ = some (.int .i64 xm))
      (first | exact ⟨c1, c3⟩ | exact ⟨q1, q3⟩ | exact ⟨r1, r3⟩ | go_keep)
      (first
        | (go_at_call 40; refine HA.out.mono ?_; rintro e W2 ⟨rfl, g2, m2⟩; obtain ⟨q1, q2, q3, q4, q5⟩ := HKd.out _ g2; have M2 := Lib.hid m2; have G2 := Lib.hid g2; clear g2 m2)
        | (go_at_call 41; refine (HB.out _ M2.out).mono ?_; rintro e W3 ⟨rfl, m3, f3⟩; obtain ⟨r1, r2, r3, r4, r5⟩ := HKr.out _ _ G2.out f3; have M3 := Lib.hid m3; clear m3 f3))
    go_wp2
    go_ret
    exact ⟨rfl, M3.out⟩
  · obtain ⟨z, M, hA, hB⟩ := pl_rotate HHd.out xp
    have HA := Lib.hid hA
    have HB := Lib.hid hB
    have hs1 : (z == z) = true := by simp
    clear hA hB
    go_upto_region 12 with (fail)
    go_region_held3 (fun w' => w'.cell? ⟨b, 2, none⟩ = some (.int .i64 xp))
      (first | exact c2 | exact q2 | exact r2 | go_keep)
      (first
        | (go_at_call 34; refine HA.out.mono ?_; rintro e W2 ⟨rfl, g2, m2⟩; obtain ⟨q1, q2, q3, q4, q5⟩ := HKd.out _ g2; have M2 := Lib.hid m2; have G2 := Lib.hid g2; clear g2 m2)
        | (go_at_call 42; refine (HB.out _ M2.out).mono ?_; rintro e W3 ⟨rfl, m3, f3⟩; obtain ⟨r1, r2, r3, r4, r5⟩ := HKr.out _ _ G2.out f3; have M3 := Lib.hid m3; clear m3 f3))
    go_wp2
    go_ret
    exact ⟨rfl, M3.out⟩
  · obtain ⟨a, z, M, hA, hB⟩ := pl_take HH.out xn
    have HA := Lib.hid hA
    have HB := Lib.hid hB
    have hs1 : (z == z) = true := by simp
    have hs2 : (a == a) = true := by simp
    clear hA hB
    go_wp2_with (first
      | (go_at_call 43; refine HA.out.mono ?_; rintro e W2 ⟨rfl, g2, m2⟩; obtain ⟨q1, q2, q3, q4, q5⟩ := HK.out _ g2; have M2 := Lib.hid m2; clear g2 m2)
      | (go_at_call 44; refine (HB.out _ M2.out).mono ?_; rintro e W3 ⟨rfl, m3, _⟩; have M3 := Lib.hid m3; clear m3))
    go_ret
    exact ⟨rfl, M3.out⟩
  · obtain ⟨a, z, M, hA, hB⟩ := pl_best HH.out xn
    have HA := Lib.hid hA
    have HB := Lib.hid hB
    have hs1 : (z == z) = true := by simp
    have hs2 : (a == a) = true := by simp
    clear hA hB
    go_wp2_with (first
      | (go_at_call 33; refine HA.out.mono ?_; rintro e W2 ⟨rfl, g2, m2⟩; obtain ⟨q1, q2, q3, q4, q5⟩ := HK.out _ g2; have M2 := Lib.hid m2; clear g2 m2)
      | (go_at_call 45; refine (HB.out _ M2.out).mono ?_; rintro e W3 ⟨rfl, m3, _⟩; have M3 := Lib.hid m3; clear m3))
    go_ret
    exact ⟨rfl, M3.out⟩
  · obtain ⟨a, z, M, hA, hB⟩ := pl_prio HH.out xt
    have HA := Lib.hid hA
    have HB := Lib.hid hB
    have hs1 : (z == z) = true := by simp
    have hs2 : (a == a) = true := by simp
    clear hA hB
    go_wp2_with (first
      | (go_at_call 46; refine HA.out.mono ?_; rintro e W2 ⟨rfl, g2, m2⟩; obtain ⟨q1, q2, q3, q4, q5⟩ := HK.out _ g2; have M2 := Lib.hid m2; clear g2 m2)
      | (go_at_call 47; refine (HB.out _ M2.out).mono ?_; rintro e W3 ⟨rfl, m3, _⟩; have M3 := Lib.hid m3; clear m3))
    go_ret
    exact ⟨rfl, M3.out⟩
end Go.Proofs.Ytbjpaemldnoinaa
