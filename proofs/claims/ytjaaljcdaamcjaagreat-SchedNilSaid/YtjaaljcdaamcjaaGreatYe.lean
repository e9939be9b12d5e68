/- The contracts of package ready's sets of priorities and rings. -/
import Derived.Test.YtjaaljcdaamcjaaGreatYc
import Derived.Deep.Cut
namespace Go.Proofs.YtjaaljcdaamcjaaGreat.Rd
open Go.RowKit
set_option linter.unusedVariables false

theorem wrap_pow (k : Nat) (hk : k < 64) : IntKind.u64.wrap ((2 : Int) ^ k) = ((2 ^ k : Nat) : Int) := by
  have hlt : 2 ^ k < 2 ^ 64 := Nat.pow_lt_pow_right (by decide) hk
  have e : ((2 : Int) ^ k) = ((2 ^ k : Nat) : Int) := by simp
  rw [IntKind.wrap_u64, e]
  generalize 2 ^ k = y at hlt
  omega
theorem or_bit (x k : Nat) (hx : x < 2 ^ 64) (hk : k < 64) : bits .or .u64 (x : Int) (IntKind.u64.wrap ((2 : Int) ^ k)) = ((x ||| 2 ^ k : Nat) : Int) := by
  rw [wrap_pow k hk, u64_or_nat x (2 ^ k) hx (Nat.pow_lt_pow_right (by decide) hk)]
theorem andNot_bit (x k : Nat) (hx : x < 2 ^ 64) (hk : k < 64) : bits .andNot .u64 (x : Int) (IntKind.u64.wrap ((2 : Int) ^ k)) = ((x &&& (18446744073709551615 - 2 ^ k) : Nat) : Int) := by
  rw [wrap_pow k hk, u64_andNot_nat x (2 ^ k) hx (Nat.pow_lt_pow_right (by decide) hk)]

set_option maxRecDepth 100000 in
theorem has_any {W : World} {B : Nat} {q : QS} (h : QAt W B q) (p : Nat) (hp : p < 256) (hf : q.filled (p / 64) < 2 ^ 64) : Calls Tryz.prog 180 #[.pointer (some ⟨B, 512, none⟩), .int .i64 p] W fun e w' => e = .returned (.bool ((q.filled (p / 64)).testBit (p % 64))) ∧ W = w' := by
  obtain ⟨j, hj⟩ : ∃ j, p / 64 = j := ⟨_, rfl⟩
  obtain ⟨k, hk⟩ : ∃ k, p % 64 = k := ⟨_, rfl⟩
  have hc := h.filled j (by omega)
  have h0 : (0 : Int) ≤ p := by omega
  have h1 : (p : Int) < 256 := by omega
  have e1 : (p : Int) / 64 = (j : Int) := by omega
  have e2 : (p : Int) % 64 = (k : Int) := by omega
  have l1 : (j : Int) < 4 := by omega
  have l2 : (k : Int) < 64 := by omega
  have l3 : (0 : Int) ≤ j := by omega
  have l4 : (0 : Int) ≤ k := by omega
  rw [hj] at hf
  have HV := Lib.hid (has_bit (q.filled j) k hf)
  rw [hj, hk]
  clear h hj hk hp hf
  go_enter Tryz.func180, Tryz.ntmps180
  go_wp2
  go_ret
  exact ⟨by rw [HV.out]; rfl, rfl⟩

set_option maxRecDepth 100000 in
theorem add_any {W : World} {B : Nat} {q : QS} (h : QAt W B q) (p : Nat) (hp : p < 256) (hf : q.filled (p / 64) < 2 ^ 64) : Calls Tryz.prog 182 #[.pointer (some ⟨B, 512, none⟩), .int .i64 p] W fun e w' => (∃ v, e = .returned v) ∧ W.grownBy w' (some B) ∧ QAt w' B { q with filled := upd q.filled (p / 64) (q.filled (p / 64) ||| 2 ^ (p % 64)) } := by
  obtain ⟨j, hj⟩ : ∃ j, p / 64 = j := ⟨_, rfl⟩
  obtain ⟨k, hk⟩ : ∃ k, p % 64 = k := ⟨_, rfl⟩
  have hc := h.filled j (by omega)
  have hz := h.frozen (512 + j)
  have h0 : (0 : Int) ≤ p := by omega
  have h1 : (p : Int) < 256 := by omega
  have e1 : (p : Int) / 64 = (j : Int) := by omega
  have e2 : (p : Int) % 64 = (k : Int) := by omega
  have l1 : (j : Int) < 4 := by omega
  have l2 : (k : Int) < 64 := by omega
  have l3 : (0 : Int) ≤ j := by omega
  have l4 : (0 : Int) ≤ k := by omega
  rw [hj] at hf
  rw [hj, hk]
  have HS := Lib.hid (h.setFilled j (q.filled j ||| 2 ^ k) (by omega))
  have HB := Lib.hid (or_bit (q.filled j) k hf (by omega))
  clear h hj hk hp
  go_enter Tryz.func182, Tryz.ntmps182
  go_wp2
  go_region
  go_end0
  exact ⟨⟨_, rfl⟩, grown_trans (grown_set _ _ _ _) (grown_drew _ _), by rw [HB.out]; exact HS.out⟩
set_option maxRecDepth 100000 in
theorem remove_any {W : World} {B : Nat} {q : QS} (h : QAt W B q) (p : Nat) (hp : p < 256) (hf : q.filled (p / 64) < 2 ^ 64) : Calls Tryz.prog 205 #[.pointer (some ⟨B, 512, none⟩), .int .i64 p] W fun e w' => (∃ v, e = .returned v) ∧ W.grownBy w' (some B) ∧ QAt w' B { q with filled := upd q.filled (p / 64) (q.filled (p / 64) &&& (18446744073709551615 - 2 ^ (p % 64))) } := by
  obtain ⟨j, hj⟩ : ∃ j, p / 64 = j := ⟨_, rfl⟩
  obtain ⟨k, hk⟩ : ∃ k, p % 64 = k := ⟨_, rfl⟩
  have hc := h.filled j (by omega)
  have hz := h.frozen (512 + j)
  have h0 : (0 : Int) ≤ p := by omega
  have h1 : (p : Int) < 256 := by omega
  have e1 : (p : Int) / 64 = (j : Int) := by omega
  have e2 : (p : Int) % 64 = (k : Int) := by omega
  have l1 : (j : Int) < 4 := by omega
  have l2 : (k : Int) < 64 := by omega
  have l3 : (0 : Int) ≤ j := by omega
  have l4 : (0 : Int) ≤ k := by omega
  rw [hj] at hf
  rw [hj, hk]
  have HS := Lib.hid (h.setFilled j (q.filled j &&& (18446744073709551615 - 2 ^ k)) (by omega))
  have HB := Lib.hid (andNot_bit (q.filled j) k hf (by omega))
  clear h hj hk hp
  go_enter Tryz.func205, Tryz.ntmps205
  go_wp2
  go_region
  go_end0
  exact ⟨⟨_, rfl⟩, grown_trans (grown_set _ _ _ _) (grown_drew _ _), by rw [HB.out]; exact HS.out⟩

/-! Rings -/
set_option maxHeartbeats 1000000 in
theorem link_any {W : World} {B : Nat} {q : QS} (h : QAt W B q) (t a : Nat) (ht : t < 256) (ha : a < 256) (hl : q.before a < 256) :
    Calls Tryz.prog 183 #[.pointer (some ⟨B, 0, none⟩), .int .i64 t, .int .i64 a] W fun e w' => (∃ v, e = .returned v) ∧ W.grownBy w' (some B) ∧ QAt w' B { q with after := upd (upd q.after (q.before a) t) t a, before := upd (upd q.before t (q.before a)) a t } := by
  have hb := h.before a ha
  obtain ⟨z, hz⟩ : ∃ z, q.before a = z := ⟨_, rfl⟩
  rw [hz] at hb hl
  rw [hz]
  have HQ := Lib.hid ((h.setAfter z t hl).setBefore t z ht)
  have f1 := h.frozen z
  have f2 := h.frozen (256 + t)
  have c1 := h.after z hl
  have c2 := h.before t ht
  have t0 : (0 : Int) ≤ t := by omega
  have t1 : (t : Int) < 256 := by omega
  have a0 : (0 : Int) ≤ a := by omega
  have a1 : (a : Int) < 256 := by omega
  have z0 : (0 : Int) ≤ z := by omega
  have z1 : (z : Int) < 256 := by omega
  clear h hz
  go_enter Tryz.func183, Tryz.ntmps183
  go_wp2
  go_region
  have H1 : Hid (QAt ((W.setCell ⟨B, z, none⟩ (.int .i64 t)).setCell ⟨B, 256 + t, none⟩ (.int .i64 z)).drew B { q with after := upd q.after z t, before := upd q.before t z }) := HQ.out
  have G1 : Hid (W.grownBy ((W.setCell ⟨B, z, none⟩ (.int .i64 t)).setCell ⟨B, 256 + t, none⟩ (.int .i64 z)).drew (some B)) := grown_trans (grown_trans (grown_set _ _ _ _) (grown_set _ _ _ _)) (grown_drew _ _)
  clear c1 c2 f1 f2 hb
  generalize World.drew (World.setCell (World.setCell W _ _) _ _) = wM at H1 G1 ⊢
  have f3 := H1.out.frozen t
  have f4 := H1.out.frozen (256 + a)
  have c3 := H1.out.after t ht
  have c4 := H1.out.before a ha
  go_wp2
  go_region
  go_end0
  exact ⟨⟨_, rfl⟩, grown_trans G1.out (grown_trans (grown_trans (grown_set _ _ _ _) (grown_set _ _ _ _)) (grown_drew _ _)), (H1.out.setAfter t a ht).setBefore a t ha⟩
set_option maxHeartbeats 1000000 in
theorem unlink_any {W : World} {B : Nat} {q : QS} (h : QAt W B q) (t : Nat) (ht : t < 256) (hl : q.before t < 256) (hx : q.after t < 256) :
    Calls Tryz.prog 206 #[.pointer (some ⟨B, 0, none⟩), .int .i64 t] W fun e w' => (∃ v, e = .returned v) ∧ W.grownBy w' (some B) ∧ QAt w' B { q with after := upd q.after (q.before t) (q.after t), before := upd q.before (q.after t) (q.before t) } := by
  have hb := h.before t ht
  have hc := h.after t ht
  obtain ⟨y, hy⟩ : ∃ y, q.before t = y := ⟨_, rfl⟩
  obtain ⟨z, hz⟩ : ∃ z, q.after t = z := ⟨_, rfl⟩
  rw [hy] at hb hl
  rw [hz] at hc hx
  rw [hy, hz]
  have HQ := Lib.hid h
  have t0 : (0 : Int) ≤ t := by omega
  have t1 : (t : Int) < 256 := by omega
  have y0 : (0 : Int) ≤ y := by omega
  have y1 : (y : Int) < 256 := by omega
  have z0 : (0 : Int) ≤ z := by omega
  have z1 : (z : Int) < 256 := by omega
  clear h hz hy
  go_enter Tryz.func206, Tryz.ntmps206
  go_wp2
  go_region
  have H1 : Hid (QAt W.drew B q) := HQ.out
  have G1 : Hid (W.grownBy W.drew (some B)) := grown_drew _ _
  clear hb hc HQ
  generalize W.drew = wM at H1 G1 ⊢
  have f1 := H1.out.frozen y
  have c1 := H1.out.after y hl
  go_upto_region 2 with (fail)
  have H2 := Lib.hid (H1.out.setAfter y z hl)
  have G2 := Lib.hid (grown_trans G1.out (grown_set wM B y (.int .i64 z)))
  clear f1 c1 H1 G1
  generalize World.setCell wM _ _ = wN at H2 G2 ⊢
  have f2 := H2.out.frozen (256 + z)
  have c2 := H2.out.before z hx
  go_wp2
  go_end0
  exact ⟨⟨_, rfl⟩, grown_trans G2.out (grown_set _ _ _ _), H2.out.setBefore z y hx⟩
end Go.Proofs.YtjaaljcdaamcjaaGreat.Rd
