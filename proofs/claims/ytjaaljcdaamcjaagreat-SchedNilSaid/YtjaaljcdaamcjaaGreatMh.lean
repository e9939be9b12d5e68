/- The meter's Compare. -/
import Derived.Test.YtjaaljcdaamcjaaGreatMg
namespace Go.Proofs.YtjaaljcdaamcjaaGreat.Pa
open Go.RowKit
set_option linter.unusedVariables false

set_option maxRecDepth 100000 in
theorem comp_nil (now a b : Int) (W : World) : Calls Tryz.prog 140 #[.pointer none, .int .i64 now, .int .i64 a, .int .i64 b] W fun e w' => e = .returned (.tuple #[.int .i64 0, .int .i64 35]) ∧ Fr (fun _ => False) W w' := by
  go_enter Tryz.func140, Tryz.ntmps140
  go_wp2_with (go_at_call 145; refine (check_nil _ _ _).mono ?_; rintro e w' ⟨rfl, rfl⟩)
  go_ret2
  exact ⟨rfl, Fr.alloc _ _ _⟩
def BudOk (C : CF) : Prop := ∀ p, (0 ≤ C.bud p ∧ C.bud p ≤ 8000)
def coV (C : CF) (T : Nat) (L : List Ch) (now a b : Int) : Int × Int := if erV C T now [a, b] = 0 then (cmpV (C.bud a.toNat) (useL L C.win now.toNat a.toNat : Nat) (C.bud b.toNat) (useL L C.win now.toNat b.toNat : Nat), 0) else (0, erV C T now [a, b])
theorem chk2 {q : MQ} {B : Nat} {W : World} (hm : MAt W B q) (now a b : Int) {z : Int} (hz : chkP4 q.np q.told now [a, b] = z) : ∀ W2 g, Fr (fun _ => False) W W2 → W2.cell? ⟨g, 0, none⟩ = some (.int .i64 a) → W2.cell? ⟨g, 1, none⟩ = some (.int .i64 b) → Calls Tryz.prog 145 #[.pointer (some ⟨B, 0, none⟩), .int .i64 now, .slice (some ⟨g, 0, none⟩) 2 2] W2 fun e w' => e = .returned (.int .i64 z) ∧ W2 = w' := fun W2 g f hc hd => by
  rw [← hz]
  refine check_any (hm.fr f id) now [a, b] (by simp) g 2 fun i x hx => ?_
  match i, hx with
  | 0, hx => cases hx; exact hc
  | 1, hx => cases hx; exact hd
theorem er2_cases {C : CF} {T : Nat} {now a b : Int} : (∃ z, erV C T now [a, b] = z ∧ z ≠ 0 ∧ tiV C T now [a, b] = T) ∨ ∃ n i j : Nat, now = n ∧ a = i ∧ b = j ∧ erV C T now [a, b] = 0 ∧ tiV C T now [a, b] = n ∧ T ≤ n ∧ n ≤ 1099511627776 ∧ i < C.np ∧ j < C.np := by
  by_cases h : erV C T now [a, b] = 0
  · obtain ⟨h1, h2, h3⟩ := chk_ok.1 h
    simp only [List.all_cons, List.all_nil, Bool.and_true, Bool.and_eq_true] at h2
    have h4 := (hasB_iff C.np a).1 h2.1
    have h5 := (hasB_iff C.np b).1 h2.2
    exact .inr ⟨now.toNat, a.toNat, b.toNat, by omega, by omega, by omega, h, by rw [tiV, if_pos h], by omega, by omega, by omega, by omega⟩
  · exact .inl ⟨_, rfl, h, by rw [tiV, if_neg h]⟩
theorem MS.acc {W : World} {B n : Nat} {C : CF} {L : List Ch} (h : MS B C n L W) {k : Nat} (hk : k < C.np) : k < 8 ∧ W.cell? ⟨B, 3 + k * 4, none⟩ = some (.int .i64 (C.bud k)) ∧ W.cell? ⟨B, 3 + k * 4 + 1, none⟩ = some (.int .i64 (C.cri k)) ∧ W.cell? ⟨B, 3 + k * 4 + 2, none⟩ = some (.int .i64 (useL L C.win n k : Nat)) ∧ W.cell? ⟨B, 3 + k * 4 + 3, none⟩ = some (.int .i64 (ucrL L C.win n k : Nat)) ∧ useL L C.win n k ≤ 100000 := by
  obtain ⟨q, hm, hL, rfl, rfl⟩ := h
  have h8 : k < 8 := by have := hL.np1; have : k < q.np := hk; omega
  have c2 := hm.use k h8
  have c3 := hm.ucr k h8
  rw [hL.use] at c2
  rw [hL.ucr] at c3
  exact ⟨h8, hm.bud k h8, hm.cri k h8, c2, c3, Nat.le_trans List.countP_le_length hL.len⟩
set_option maxRecDepth 100000 in
set_option maxHeartbeats 2000000 in
theorem comp_any {W : World} {B T : Nat} {C : CF} {L : List Ch} (h : MS B C T L W) (hC : BudOk C) (now a b : Int) : Calls Tryz.prog 140 #[.pointer (some ⟨B, 0, none⟩), .int .i64 now, .int .i64 a, .int .i64 b] W (MR (.tuple #[.int .i64 (coV C T L now a b).1, .int .i64 (coV C T L now a b).2]) B C (tiV C T now [a, b]) L W) := by
  have HH := Lib.hid h
  rcases er2_cases (C := C) (T := T) (now := now) (a := a) (b := b) with ⟨z, hz, h0, ht⟩ | ⟨n, i, j, rfl, rfl, rfl, hz, ht, h1, h2, h3, h4⟩
  · have HV : Hid (coV C T L now a b = (0, z)) := by show _ = _; rw [coV, hz, if_neg h0]
    rw [HV.out, ht]
    obtain ⟨q, hm, hL, rfl, rfl⟩ := h
    have HC := Lib.hid (chk2 hm now a b hz)
    have hz0 : (z != 0) = true := by simpa using h0
    clear hz h0 ht hm hL
    go_enter Tryz.func140, Tryz.ntmps140
    go_wp2_with (go_at_call 145; refine (HC.out _ _ (Fr.alloc _ _ _) (by go_simp) (by go_simp)).mono ?_; rintro e w' ⟨rfl, rfl⟩)
    go_ret2
    exact ⟨rfl, HH.out.fr (Fr.alloc (fun _ => False) _ _) id, Fr.alloc _ _ _⟩
  · have HV : Hid (coV C T L n i j = (cmpV (C.bud i) (useL L C.win n i : Nat) (C.bud j) (useL L C.win n j : Nat), 0)) := by show _ = _; rw [coV, if_pos hz]; simp only [Int.toNat_natCast]
    rw [HV.out, ht]
    have HC : Hid (∀ W2 g, Fr (fun _ => False) W W2 → W2.cell? ⟨g, 0, none⟩ = some (.int .i64 (i : Int)) → W2.cell? ⟨g, 1, none⟩ = some (.int .i64 (j : Int)) → Calls Tryz.prog 145 #[.pointer (some ⟨B, 0, none⟩), .int .i64 (n : Int), .slice (some ⟨g, 0, none⟩) 2 2] W2 fun e w' => e = .returned (.int .i64 0) ∧ W2 = w') := by
      obtain ⟨q, hm, hL, rfl, rfl⟩ := h
      exact chk2 hm n i j hz
    have HT : Hid (∀ W2, Fr (fun _ => False) W W2 → Calls Tryz.prog 146 #[.pointer (some ⟨B, 0, none⟩), .int .i64 (n : Int)] W2 fun e w' => (∃ v, e = .returned v) ∧ MS B C n L w' ∧ Fr (fun k => k = B) W2 w') := fun W2 f => tell_any (h.fr f id) n h1 h2
    have HC0 := Lib.hid hC
    have H3 := Lib.hid h3
    have H4 := Lib.hid h4
    clear h h1 h2 h3 h4 hz ht
    go_enter Tryz.func140, Tryz.ntmps140
    go_upto_region 5 with (first
      | (go_at_call 145; refine (HC.out _ _ (Fr.alloc _ _ _) (by go_simp) (by go_simp)).mono ?_; rintro e w' ⟨rfl, rfl⟩)
      | (go_at_call 146; refine (HT.out _ (Fr.alloc _ _ _)).mono ?_; rintro e W3 ⟨⟨v3, rfl⟩, m3, f3⟩; have M3 := Lib.hid m3; have F3 := Lib.hid ((Fr.alloc (fun k => k = B) _ _).trans f3); clear m3 f3))
    obtain ⟨i8, a0, a1, a2, a3, a4⟩ := M3.out.acc H3.out
    obtain ⟨j8, b0, b1, b2, b3, b4⟩ := M3.out.acc H4.out
    have i0 : (0 : Int) ≤ i := by omega
    have i1 : (i : Int) < 8 := by omega
    have j0 : (0 : Int) ≤ j := by omega
    have j1 : (j : Int) < 8 := by omega
    have HA4 := Lib.hid a4
    have HB4 := Lib.hid b4
    obtain ⟨r, hr⟩ : ∃ r, cmpV (C.bud i) (useL L C.win n i : Nat) (C.bud j) (useL L C.win n j : Nat) = r := ⟨_, rfl⟩
    have HCM : Hid (∀ W, Calls Tryz.prog 169 #[.agg #[.int .i64 (C.bud i), .int .i64 (C.cri i), .int .i64 (useL L C.win n i : Nat), .int .i64 (ucrL L C.win n i : Nat)], .agg #[.int .i64 (C.bud j), .int .i64 (C.cri j), .int .i64 (useL L C.win n j : Nat), .int .i64 (ucrL L C.win n j : Nat)]] W fun e w' => e = .returned (.int .i64 r) ∧ Fr (fun _ => False) W w') := fun W => by
      rw [← hr]
      exact compare2_any W (C.bud i) (C.cri i) (useL L C.win n i : Nat) (ucrL L C.win n i : Nat) (C.bud j) (C.cri j) (useL L C.win n j : Nat) (ucrL L C.win n j : Nat) (HC0.out i) (HC0.out j) ⟨by omega, by omega⟩ ⟨by omega, by omega⟩
    have HRE := Lib.hid hr
    clear hr
    generalize useL L C.win n i = ui at a2 HCM
    generalize useL L C.win n j = uj at b2 HCM
    generalize ucrL L C.win n i = vi at a3 HCM
    generalize ucrL L C.win n j = vj at b3 HCM
    have HK : Hid (∀ W4, Fr (fun _ => False) W3.drew W4 → MS B C n L W4 ∧ Fr (fun k => k = B) W W4) := fun W4 f => ⟨(M3.out.fr (Fr.drew (fun _ => False) _) id).fr f id, (F3.out.trans (Fr.drew _ _)).trans (f.mono fun _ _ e => e.elim)⟩
    have HCE : Hid (∀ W4, Fr (fun _ => False) W3.drew W4 → ∀ k, W4.cell? ⟨B, k, none⟩ = W3.cell? ⟨B, k, none⟩) := fun W4 f k => World.cell?_of_block (f.block B M3.out.lt id)
    clear i8 j8 a4 b4 HC HT hC
    go_region_held3 (fun w' => (w'.cell? ⟨B, 3 + i * 4, none⟩ = some (.int .i64 (C.bud i)) ∧ w'.cell? ⟨B, 3 + i * 4 + 1, none⟩ = some (.int .i64 (C.cri i)) ∧ w'.cell? ⟨B, 3 + i * 4 + 2, none⟩ = some (.int .i64 ui) ∧ w'.cell? ⟨B, 3 + i * 4 + 3, none⟩ = some (.int .i64 vi)) ∧ w'.cell? ⟨B, 3 + j * 4, none⟩ = some (.int .i64 (C.bud j)) ∧ w'.cell? ⟨B, 3 + j * 4 + 1, none⟩ = some (.int .i64 (C.cri j)) ∧ w'.cell? ⟨B, 3 + j * 4 + 2, none⟩ = some (.int .i64 uj) ∧ w'.cell? ⟨B, 3 + j * 4 + 3, none⟩ = some (.int .i64 vj))
      (first | exact ⟨⟨a0, a1, a2, a3⟩, b0, b1, b2, b3⟩ | exact ⟨⟨(HCE.out _ F4.out _).trans a0, (HCE.out _ F4.out _).trans a1, (HCE.out _ F4.out _).trans a2, (HCE.out _ F4.out _).trans a3⟩, (HCE.out _ F4.out _).trans b0, (HCE.out _ F4.out _).trans b1, (HCE.out _ F4.out _).trans b2, (HCE.out _ F4.out _).trans b3⟩ | go_keep)
      (first | (go_at_call 169; refine (HCM.out _).mono ?_; rintro e W4 ⟨rfl, f4⟩; have F4 := Lib.hid f4; clear f4))
    go_wp2
    go_ret2
    exact ⟨by rw [HRE.out] <;> rfl, HK.out _ F4.out⟩
end Go.Proofs.YtjaaljcdaamcjaaGreat.Pa
