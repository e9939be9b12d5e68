/- The reference's Used, UsedCritical, HasBudget, Bankrupt. -/
import Derived.Test.YtbjpaemldnoinaaHb
namespace Go.Proofs.Ytbjpaemldnoinaa
open Go.RowKit
set_option linter.unusedVariables false

/-- Answers v; then the time T' is told, and L' is charged. -/
def RR (v : Value) (lo G w p : Nat) (P : List (Int × Int)) (T' : Nat) (L' : List Ch) (W : World) (e : Ending) (w' : World) : Prop := e = .returned v ∧ RM lo G w p P T' L' w' ∧ Fr (fun k => k = G) W w'
/-- The cells of a part. -/
theorem RA.part {W : World} {lo G pb cp w p T : Nat} {v : Value} {P : List (Int × Int)} {L : List Ch} (h : RA lo G pb cp v w p P T L W) {k : Nat} (hk : k < P.length) : ∃ s c : Int, (0 ≤ s ∧ s ≤ 100) ∧ (0 ≤ c ∧ c ≤ 100) ∧ (cfP w p P).bud k = budI w p s ∧ (cfP w p P).cri k = budI w p c ∧ ∀ W', Fr (fun k => k = G) W W' → W'.cell? ⟨pb, k * 2, none⟩ = some (.int .i64 s) ∧ W'.cell? ⟨pb, k * 2 + 1, none⟩ = some (.int .i64 c) := by
  have hx : P[k]? = some P[k] := List.getElem?_eq_getElem hk
  obtain ⟨h1, h2⟩ := (cfg_ok h.ok).2.2.2.2 P[k] (List.mem_of_getElem? hx)
  refine ⟨P[k].1, P[k].2, h1, h2, ?_, ?_, fun W' f => ?_⟩
  · show (if k < P.length then budI w p (P.getD k (0, 0)).1 else 0) = _
    rw [if_pos hk, List.getD_eq_getElem?_getD, hx]; rfl
  · show (if k < P.length then budI w p (P.getD k (0, 0)).2 else 0) = _
    rw [if_pos hk, List.getD_eq_getElem?_getD, hx]; rfl
  · obtain ⟨e1, e2⟩ := (partsAt_fr h.parts f h.ne).2 k _ hx
    rw [Nat.zero_add] at e1 e2
    exact ⟨e1, e2⟩
/-- A question about one partition. -/
theorem rask1 {W : World} {lo G pb cp w p T : Nat} {v : Value} {P : List (Int × Int)} {L : List Ch} (h : RA lo G pb cp v w p P T L W) (now k z : Int) (hz : erV (cfP w p P) T now [k] = z) (t : TypeId) : Calls Try.prog 88 #[.pointer (some ⟨G, 0, none⟩), .int .i64 now, .slice (some ⟨W.heap.size, 0, none⟩) 1 1] (W.alloc (.cells #[.int .i64 k] t)) fun e w' => e = .returned (.int .i64 z) ∧ Fr (fun _ => False) W w' := by
  have := rask_any (h.rest (Fr.alloc _ W (.cells #[.int .i64 k] t))) now [k] (by simp) W.heap.size 1 (fun i x hx => by
    match i, hx with
    | 0, hx => cases hx; exact (RowAt.new W t #[.int .i64 k]).cell 0)
  rw [← hz]
  exact this.mono fun e w' ⟨he, hf⟩ => ⟨he, (Fr.alloc _ _ _).trans hf⟩

set_option maxRecDepth 100000 in
set_option maxHeartbeats 2000000 in
theorem rused_any {W : World} {lo G w p T : Nat} {P : List (Int × Int)} {L : List Ch} (h : RM lo G w p P T L W) (hl : L.length ≤ 1000) (now k : Int) : Calls Try.prog 52 #[.pointer (some ⟨G, 0, none⟩), .int .i64 now, .int .i64 k] W (RR (.tuple #[.int .i64 (usV (cfP w p P) T L now k).1, .int .i64 (usV (cfP w p P) T L now k).2]) lo G w p P (tiV (cfP w p P) T now [k]) L W) := by
  obtain ⟨pb, cp, v, h⟩ := h
  have HH := Lib.hid h
  have HL := Lib.hid hl
  rcases er_cases (C := cfP w p P) (T := T) (now := now) (p := k) with ⟨z, hz, h0, ht⟩ | ⟨n, k, rfl, rfl, hz, ht, h1, h2, h3⟩
  · have HV : Hid (usV (cfP w p P) T L now k = (0, z)) := by show _ = _; rw [usV, hz, if_neg h0]
    rw [HV.out, ht]
    have HA := Lib.hid (fun t => rask1 h now k z hz t)
    have hz0 : (z != 0) = true := by simpa using h0
    clear h hl hz h0 ht
    go_enter Try.func52, Try.ntmps52
    go_wp2_with (go_at_call 88; refine (HA.out _).mono ?_; rintro e W2 ⟨rfl, f2⟩; have F2 := Lib.hid f2; clear f2)
    go_ret2
    exact ⟨rfl, ⟨pb, cp, v, HH.out.rest F2.out⟩, F2.out.mono fun _ _ e => e.elim⟩
  · have HV : Hid (usV (cfP w p P) T L n k = (((useL L w n k : Nat) : Int), 0)) := by show _ = _; rw [usV, if_pos hz]; simp only [Int.toNat_natCast]; rfl
    rw [HV.out, ht]
    have HA := Lib.hid (fun t => rask1 h n k 0 hz t)
    have HCN : Hid (∀ W2, RA lo G pb cp v w p P n L W2 → Calls Try.prog 89 #[.pointer (some ⟨G, 0, none⟩), .int .i64 (n : Int), .int .i64 (k : Int), .bool false] W2 fun e w' => e = .returned (.int .i64 (useL L w n k : Nat)) ∧ Fr (fun _ => False) W2 w') := fun W2 h2 => by
      have := rcount_any h2 HL.out n k (by assumption) false
      rw [cnt_use] at this
      exact this
    clear h hl hz h1 h2 h3 ht
    go_enter Try.func52, Try.ntmps52
    go_upto_region 4 with (go_at_call 88; refine (HA.out _).mono ?_; rintro e W2 ⟨rfl, f2⟩; have F2 := Lib.hid f2; clear f2)
    have c4 : W2.cell? ⟨G, 4, none⟩ = some (.int .i64 (T : Int)) := (HH.out.row.fr F2.out id).cell 4
    have f4 : W2.frozen? ⟨G, 4, none⟩ = false := (HH.out.row.fr F2.out id).frozen 4
    go_upto_region 5 with (fail)
    have HT := Lib.hid ((HH.out.rest F2.out).tell n)
    have HF : Hid (Fr (fun k => k = G) W (W2.setCell ⟨G, 4, none⟩ (.int .i64 (n : Int)))) := (F2.out.mono fun _ _ e => e.elim).trans (Fr.set _ _ _ _ rfl)
    clear c4 f4
    generalize W2.setCell _ _ = W3 at HT HF ⊢
    go_wp2_with (go_at_call 89; refine (HCN.out _ HT.out).mono ?_; rintro e W4 ⟨rfl, f4⟩; have F4 := Lib.hid f4; clear f4)
    go_ret2
    exact ⟨rfl, ⟨pb, cp, v, HT.out.rest F4.out⟩, HF.out.trans (F4.out.mono fun _ _ e => e.elim)⟩
set_option maxRecDepth 100000 in
set_option maxHeartbeats 2000000 in
theorem rucrit_any {W : World} {lo G w p T : Nat} {P : List (Int × Int)} {L : List Ch} (h : RM lo G w p P T L W) (hl : L.length ≤ 1000) (now k : Int) : Calls Try.prog 53 #[.pointer (some ⟨G, 0, none⟩), .int .i64 now, .int .i64 k] W (RR (.tuple #[.int .i64 (ucV (cfP w p P) T L now k).1, .int .i64 (ucV (cfP w p P) T L now k).2]) lo G w p P (tiV (cfP w p P) T now [k]) L W) := by
  obtain ⟨pb, cp, v, h⟩ := h
  have HH := Lib.hid h
  have HL := Lib.hid hl
  rcases er_cases (C := cfP w p P) (T := T) (now := now) (p := k) with ⟨z, hz, h0, ht⟩ | ⟨n, k, rfl, rfl, hz, ht, h1, h2, h3⟩
  · have HV : Hid (ucV (cfP w p P) T L now k = (0, z)) := by show _ = _; rw [ucV, hz, if_neg h0]
    rw [HV.out, ht]
    have HA := Lib.hid (fun t => rask1 h now k z hz t)
    have hz0 : (z != 0) = true := by simpa using h0
    clear h hl hz h0 ht
    go_enter Try.func53, Try.ntmps53
    go_wp2_with (go_at_call 88; refine (HA.out _).mono ?_; rintro e W2 ⟨rfl, f2⟩; have F2 := Lib.hid f2; clear f2)
    go_ret2
    exact ⟨rfl, ⟨pb, cp, v, HH.out.rest F2.out⟩, F2.out.mono fun _ _ e => e.elim⟩
  · have HV : Hid (ucV (cfP w p P) T L n k = (((ucrL L w n k : Nat) : Int), 0)) := by show _ = _; rw [ucV, if_pos hz]; simp only [Int.toNat_natCast]; rfl
    rw [HV.out, ht]
    have HA := Lib.hid (fun t => rask1 h n k 0 hz t)
    have HCN : Hid (∀ W2, RA lo G pb cp v w p P n L W2 → Calls Try.prog 89 #[.pointer (some ⟨G, 0, none⟩), .int .i64 (n : Int), .int .i64 (k : Int), .bool true] W2 fun e w' => e = .returned (.int .i64 (ucrL L w n k : Nat)) ∧ Fr (fun _ => False) W2 w') := fun W2 h2 => by
      have := rcount_any h2 HL.out n k (by assumption) true
      rw [cnt_ucr] at this
      exact this
    clear h hl hz h1 h2 h3 ht
    go_enter Try.func53, Try.ntmps53
    go_upto_region 4 with (go_at_call 88; refine (HA.out _).mono ?_; rintro e W2 ⟨rfl, f2⟩; have F2 := Lib.hid f2; clear f2)
    have c4 : W2.cell? ⟨G, 4, none⟩ = some (.int .i64 (T : Int)) := (HH.out.row.fr F2.out id).cell 4
    have f4 : W2.frozen? ⟨G, 4, none⟩ = false := (HH.out.row.fr F2.out id).frozen 4
    go_upto_region 5 with (fail)
    have HT := Lib.hid ((HH.out.rest F2.out).tell n)
    have HF : Hid (Fr (fun k => k = G) W (W2.setCell ⟨G, 4, none⟩ (.int .i64 (n : Int)))) := (F2.out.mono fun _ _ e => e.elim).trans (Fr.set _ _ _ _ rfl)
    clear c4 f4
    generalize W2.setCell _ _ = W3 at HT HF ⊢
    go_wp2_with (go_at_call 89; refine (HCN.out _ HT.out).mono ?_; rintro e W4 ⟨rfl, f4⟩; have F4 := Lib.hid f4; clear f4)
    go_ret2
    exact ⟨rfl, ⟨pb, cp, v, HT.out.rest F4.out⟩, HF.out.trans (F4.out.mono fun _ _ e => e.elim)⟩
set_option maxRecDepth 100000 in
set_option maxHeartbeats 2000000 in
theorem rhasb_any {W : World} {lo G w p T : Nat} {P : List (Int × Int)} {L : List Ch} (h : RM lo G w p P T L W) (hl : L.length ≤ 1000) (now k : Int) : Calls Try.prog 54 #[.pointer (some ⟨G, 0, none⟩), .int .i64 now, .int .i64 k] W (RR (.tuple #[.bool (hbV (cfP w p P) T L now k).1, .int .i64 (hbV (cfP w p P) T L now k).2]) lo G w p P (tiV (cfP w p P) T now [k]) L W) := by
  obtain ⟨pb, cp, v, h⟩ := h
  have HH := Lib.hid h
  have HL := Lib.hid hl
  rcases er_cases (C := cfP w p P) (T := T) (now := now) (p := k) with ⟨z, hz, h0, ht⟩ | ⟨n, k, rfl, rfl, hz, ht, h1, h2, h3⟩
  · have HV : Hid (hbV (cfP w p P) T L now k = (false, z)) := by show _ = _; rw [hbV, hz, if_neg h0]
    rw [HV.out, ht]
    have HA := Lib.hid (fun t => rask1 h now k z hz t)
    have hz0 : (z != 0) = true := by simpa using h0
    clear h hl hz h0 ht
    go_enter Try.func54, Try.ntmps54
    go_wp2_with (go_at_call 88; refine (HA.out _).mono ?_; rintro e W2 ⟨rfl, f2⟩; have F2 := Lib.hid f2; clear f2)
    go_ret2
    exact ⟨rfl, ⟨pb, cp, v, HH.out.rest F2.out⟩, F2.out.mono fun _ _ e => e.elim⟩
  · obtain ⟨s, c, hs, hc, eb, ec, hcl⟩ := h.part (k := k) h3
    have HCL := Lib.hid hcl
    have HV : Hid (hbV (cfP w p P) T L n k = (decide (((useL L w n k : Nat) : Int) < budI w p s), 0)) := by show _ = _; rw [hbV, if_pos hz, ← eb]; rfl
    rw [HV.out, ht]
    have HA := Lib.hid (fun t => rask1 h n k 0 hz t)
    have HCN : Hid (∀ W2, RA lo G pb cp v w p P n L W2 → Calls Try.prog 89 #[.pointer (some ⟨G, 0, none⟩), .int .i64 (n : Int), .int .i64 (k : Int), .bool false] W2 fun e w' => e = .returned (.int .i64 (useL L w n k : Nat)) ∧ Fr (fun _ => False) W2 w') := fun W2 h2 => by
      have := rcount_any h2 HL.out n k (by assumption) false
      rw [cnt_use] at this
      exact this
    have HBD : Hid (∀ W2, RA lo G pb cp v w p P n L W2 → Calls Try.prog 60 #[.pointer (some ⟨G, 0, none⟩), .int .i64 s] W2 fun e w' => e = .returned (.int .i64 (budI w p s)) ∧ Fr (fun _ => False) W2 w') := fun W2 h2 => rbud_any h2 s hs
    have k0 : (0 : Int) ≤ k := by omega
    have k1 : (k : Int) < P.length := by have : k < P.length := h3; omega
    have k2 : (P.length : Int) ≤ 8 := by have := (cfg_ok h.ok).2.2.2.1; omega
    clear h hl hz h1 h2 h3 ht hs hc eb ec hcl
    generalize budI w p s = bd at HBD ⊢
    generalize useL L w n k = us at HCN ⊢
    go_enter Try.func54, Try.ntmps54
    go_upto_region 4 with (go_at_call 88; refine (HA.out _).mono ?_; rintro e W2 ⟨rfl, f2⟩; have F2 := Lib.hid f2; clear f2)
    have c4 : W2.cell? ⟨G, 4, none⟩ = some (.int .i64 (T : Int)) := (HH.out.row.fr F2.out id).cell 4
    have f4 : W2.frozen? ⟨G, 4, none⟩ = false := (HH.out.row.fr F2.out id).frozen 4
    go_upto_region 5 with (fail)
    have HT := Lib.hid ((HH.out.rest F2.out).tell n)
    have HF : Hid (Fr (fun k => k = G) W (W2.setCell ⟨G, 4, none⟩ (.int .i64 (n : Int)))) := (F2.out.mono fun _ _ e => e.elim).trans (Fr.set _ _ _ _ rfl)
    clear c4 f4
    generalize W2.setCell _ _ = W3 at HT HF ⊢
    have c2 : W3.cell? ⟨G, 2, none⟩ = some (.slice (some ⟨pb, 0, none⟩) P.length cp) := HT.out.row.cell 2
    have c3 : W3.cell? ⟨pb, k * 2, none⟩ = some (.int .i64 s) := (HCL.out _ HF.out).1
    have HKd : Hid (∀ W2, Fr (fun _ => False) W3.drew W2 → W2.cell? ⟨G, 2, none⟩ = some (.slice (some ⟨pb, 0, none⟩) P.length cp) ∧ W2.cell? ⟨pb, k * 2, none⟩ = some (.int .i64 s)) := fun W2 f => ⟨((show RowAt W3.drew G _ _ from HT.out.row).fr f id).cell 2, (HCL.out _ (HF.out.trans ((Fr.drew _ _).trans (f.mono fun _ _ e => e.elim)))).1⟩
    go_region_held3 (fun w' => w'.cell? ⟨G, 2, none⟩ = some (.slice (some ⟨pb, 0, none⟩) P.length cp) ∧ w'.cell? ⟨pb, k * 2, none⟩ = some (.int .i64 s))
      (first | (with_reducible exact HKd.out _ F5.out) | (with_reducible exact HKd.out _ F4.out) | exact ⟨c2, c3⟩ | go_keep)
      (first
        | (go_at_call 89; refine (HCN.out _ (HT.out.rest (Fr.drew _ _))).mono ?_; rintro e W4 ⟨rfl, f4⟩; have F4 := Lib.hid f4; clear f4)
        | (go_at_call 60; refine (HBD.out _ ((HT.out.rest (Fr.drew _ _)).rest F4.out)).mono ?_; rintro e W5 ⟨rfl, f5⟩; have F5 := Lib.hid (F4.out.trans f5); clear f5))
    go_wp2
    go_ret2
    exact ⟨rfl, ⟨pb, cp, v, (HT.out.rest (Fr.drew _ _)).rest F5.out⟩, HF.out.trans ((Fr.drew _ _).trans (F5.out.mono fun _ _ e => e.elim))⟩
set_option maxRecDepth 100000 in
set_option maxHeartbeats 2000000 in
theorem rbank_any {W : World} {lo G w p T : Nat} {P : List (Int × Int)} {L : List Ch} (h : RM lo G w p P T L W) (hl : L.length ≤ 1000) (now k : Int) : Calls Try.prog 56 #[.pointer (some ⟨G, 0, none⟩), .int .i64 now, .int .i64 k] W (RR (.tuple #[.bool (bkV (cfP w p P) T L now k).1, .int .i64 (bkV (cfP w p P) T L now k).2]) lo G w p P (tiV (cfP w p P) T now [k]) L W) := by
  obtain ⟨pb, cp, v, h⟩ := h
  have HH := Lib.hid h
  have HL := Lib.hid hl
  rcases er_cases (C := cfP w p P) (T := T) (now := now) (p := k) with ⟨z, hz, h0, ht⟩ | ⟨n, k, rfl, rfl, hz, ht, h1, h2, h3⟩
  · have HV : Hid (bkV (cfP w p P) T L now k = (false, z)) := by show _ = _; rw [bkV, hz, if_neg h0]
    rw [HV.out, ht]
    have HA := Lib.hid (fun t => rask1 h now k z hz t)
    have hz0 : (z != 0) = true := by simpa using h0
    clear h hl hz h0 ht
    go_enter Try.func56, Try.ntmps56
    go_wp2_with (go_at_call 88; refine (HA.out _).mono ?_; rintro e W2 ⟨rfl, f2⟩; have F2 := Lib.hid f2; clear f2)
    go_ret2
    exact ⟨rfl, ⟨pb, cp, v, HH.out.rest F2.out⟩, F2.out.mono fun _ _ e => e.elim⟩
  · obtain ⟨s, c, hs, hc, eb, ec, hcl⟩ := h.part (k := k) h3
    have HCL := Lib.hid hcl
    have HV : Hid (bkV (cfP w p P) T L n k = (decide (budI w p c ≤ ((ucrL L w n k : Nat) : Int)), 0)) := by show _ = _; rw [bkV, if_pos hz, ← ec]; rfl
    rw [HV.out, ht]
    have HA := Lib.hid (fun t => rask1 h n k 0 hz t)
    have HCN : Hid (∀ W2, RA lo G pb cp v w p P n L W2 → Calls Try.prog 89 #[.pointer (some ⟨G, 0, none⟩), .int .i64 (n : Int), .int .i64 (k : Int), .bool true] W2 fun e w' => e = .returned (.int .i64 (ucrL L w n k : Nat)) ∧ Fr (fun _ => False) W2 w') := fun W2 h2 => by
      have := rcount_any h2 HL.out n k (by assumption) true
      rw [cnt_ucr] at this
      exact this
    have HBD : Hid (∀ W2, RA lo G pb cp v w p P n L W2 → Calls Try.prog 60 #[.pointer (some ⟨G, 0, none⟩), .int .i64 c] W2 fun e w' => e = .returned (.int .i64 (budI w p c)) ∧ Fr (fun _ => False) W2 w') := fun W2 h2 => rbud_any h2 c hc
    have k0 : (0 : Int) ≤ k := by omega
    have k1 : (k : Int) < P.length := by have : k < P.length := h3; omega
    have k2 : (P.length : Int) ≤ 8 := by have := (cfg_ok h.ok).2.2.2.1; omega
    clear h hl hz h1 h2 h3 ht hs hc eb ec hcl
    generalize budI w p c = bd at HBD ⊢
    generalize ucrL L w n k = us at HCN ⊢
    go_enter Try.func56, Try.ntmps56
    go_upto_region 4 with (go_at_call 88; refine (HA.out _).mono ?_; rintro e W2 ⟨rfl, f2⟩; have F2 := Lib.hid f2; clear f2)
    have c4 : W2.cell? ⟨G, 4, none⟩ = some (.int .i64 (T : Int)) := (HH.out.row.fr F2.out id).cell 4
    have f4 : W2.frozen? ⟨G, 4, none⟩ = false := (HH.out.row.fr F2.out id).frozen 4
    go_upto_region 5 with (fail)
    have HT := Lib.hid ((HH.out.rest F2.out).tell n)
    have HF : Hid (Fr (fun k => k = G) W (W2.setCell ⟨G, 4, none⟩ (.int .i64 (n : Int)))) := (F2.out.mono fun _ _ e => e.elim).trans (Fr.set _ _ _ _ rfl)
    clear c4 f4
    generalize W2.setCell _ _ = W3 at HT HF ⊢
    have c2 : W3.cell? ⟨G, 2, none⟩ = some (.slice (some ⟨pb, 0, none⟩) P.length cp) := HT.out.row.cell 2
    have c3 : W3.cell? ⟨pb, k * 2 + 1, none⟩ = some (.int .i64 c) := (HCL.out _ HF.out).2
    have HKd : Hid (∀ W2, Fr (fun _ => False) W3.drew W2 → W2.cell? ⟨G, 2, none⟩ = some (.slice (some ⟨pb, 0, none⟩) P.length cp) ∧ W2.cell? ⟨pb, k * 2 + 1, none⟩ = some (.int .i64 c)) := fun W2 f => ⟨((show RowAt W3.drew G _ _ from HT.out.row).fr f id).cell 2, (HCL.out _ (HF.out.trans ((Fr.drew _ _).trans (f.mono fun _ _ e => e.elim)))).2⟩
    go_region_held3 (fun w' => w'.cell? ⟨G, 2, none⟩ = some (.slice (some ⟨pb, 0, none⟩) P.length cp) ∧ w'.cell? ⟨pb, k * 2 + 1, none⟩ = some (.int .i64 c))
      (first | (with_reducible exact HKd.out _ F5.out) | (with_reducible exact HKd.out _ F4.out) | exact ⟨c2, c3⟩ | go_keep)
      (first
        | (go_at_call 89; refine (HCN.out _ (HT.out.rest (Fr.drew _ _))).mono ?_; rintro e W4 ⟨rfl, f4⟩; have F4 := Lib.hid f4; clear f4)
        | (go_at_call 60; refine (HBD.out _ ((HT.out.rest (Fr.drew _ _)).rest F4.out)).mono ?_; rintro e W5 ⟨rfl, f5⟩; have F5 := Lib.hid (F4.out.trans f5); clear f5))
    go_wp2
    go_ret2
    exact ⟨rfl, ⟨pb, cp, v, (HT.out.rest (Fr.drew _ _)).rest F5.out⟩, HF.out.trans ((Fr.drew _ _).trans (F5.out.mono fun _ _ e => e.elim))⟩
end Go.Proofs.Ytbjpaemldnoinaa
