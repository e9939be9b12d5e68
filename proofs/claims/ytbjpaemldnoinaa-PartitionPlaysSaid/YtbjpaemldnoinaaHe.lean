/- The reference's Compare. -/
import Derived.Test.YtbjpaemldnoinaaHd
namespace Go.Proofs.Ytbjpaemldnoinaa
open Go.RowKit
set_option linter.unusedVariables false

theorem rask2 {W : World} {lo G pb cp w p T : Nat} {v : Value} {P : List (Int × Int)} {L : List Ch} (h : RA lo G pb cp v w p P T L W) (now a b z : Int) (hz : erV (cfP w p P) T now [a, b] = z) (t : TypeId) : Calls Try.prog 88 #[.pointer (some ⟨G, 0, none⟩), .int .i64 now, .slice (some ⟨W.heap.size, 0, none⟩) 2 2] (W.alloc (.cells #[.int .i64 a, .int .i64 b] t)) fun e w' => e = .returned (.int .i64 z) ∧ Fr (fun _ => False) W w' := by
  have := rask_any (h.rest (Fr.alloc _ W (.cells #[.int .i64 a, .int .i64 b] t))) now [a, b] (by simp) W.heap.size 2 (fun i x hx => by
    match i, hx with
    | 0, hx => cases hx; exact (RowAt.new W t #[.int .i64 a, .int .i64 b]).cell 0
    | 1, hx => cases hx; exact (RowAt.new W t #[.int .i64 a, .int .i64 b]).cell 1)
  rw [← hz]
  exact this.mono fun e w' ⟨he, hf⟩ => ⟨he, (Fr.alloc _ _ _).trans hf⟩

set_option maxRecDepth 100000 in
set_option maxHeartbeats 4000000 in
theorem rcomp_any {W : World} {lo G w p T : Nat} {P : List (Int × Int)} {L : List Ch} (h : RM lo G w p P T L W) (hl : L.length ≤ 1000) (now a b : Int) : Calls Try.prog 57 #[.pointer (some ⟨G, 0, none⟩), .int .i64 now, .int .i64 a, .int .i64 b] W (RR (.tuple #[.int .i64 (coV (cfP w p P) T L now a b).1, .int .i64 (coV (cfP w p P) T L now a b).2]) lo G w p P (tiV (cfP w p P) T now [a, b]) L W) := by
  obtain ⟨pb, cp, v, h⟩ := h
  have HH := Lib.hid h
  have HL := Lib.hid hl
  rcases er2_cases (C := cfP w p P) (T := T) (now := now) (a := a) (b := b) with ⟨z, hz, h0, ht⟩ | ⟨n, i, j, rfl, rfl, rfl, hz, ht, h1, h2, h3, h4⟩
  · have HV : Hid (coV (cfP w p P) T L now a b = (0, z)) := by show _ = _; rw [coV, hz, if_neg h0]
    rw [HV.out, ht]
    have HA := Lib.hid (fun t => rask2 h now a b z hz t)
    have hz0 : (z != 0) = true := by simpa using h0
    clear h hl hz h0 ht
    go_enter Try.func57, Try.ntmps57
    go_wp2_with (go_at_call 88; refine (HA.out _).mono ?_; rintro e W2 ⟨rfl, f2⟩; have F2 := Lib.hid f2; clear f2)
    go_ret2
    exact ⟨rfl, ⟨pb, cp, v, HH.out.rest F2.out⟩, F2.out.mono fun _ _ e => e.elim⟩
  · obtain ⟨s, s', hs, _, eb, _, hcl⟩ := h.part (k := i) h3
    obtain ⟨r, r', hr, _, ec, _, hcr⟩ := h.part (k := j) h4
    have HCL := Lib.hid hcl
    have HCR := Lib.hid hcr
    have hB := cfP_ok h.ok
    have b1 := hB i
    have b2 := hB j
    rw [eb] at b1
    rw [ec] at b2
    have HV : Hid (coV (cfP w p P) T L n i j = (cmpV (budI w p s) (useL L w n i : Nat) (budI w p r) (useL L w n j : Nat), 0)) := by show _ = _; rw [coV, if_pos hz, ← eb, ← ec]; rfl
    rw [HV.out, ht]
    have HA := Lib.hid (fun t => rask2 h n i j 0 hz t)
    have HC1 : Hid (∀ W2, RA lo G pb cp v w p P n L W2 → Calls Try.prog 89 #[.pointer (some ⟨G, 0, none⟩), .int .i64 (n : Int), .int .i64 (i : Int), .bool false] W2 fun e w' => e = .returned (.int .i64 (useL L w n i : Nat)) ∧ Fr (fun _ => False) W2 w') := fun W2 hh => by
      have := rcount_any hh HL.out n i h2 false
      rw [cnt_use] at this
      exact this
    have HC2 : Hid (∀ W2, RA lo G pb cp v w p P n L W2 → Calls Try.prog 89 #[.pointer (some ⟨G, 0, none⟩), .int .i64 (n : Int), .int .i64 (j : Int), .bool false] W2 fun e w' => e = .returned (.int .i64 (useL L w n j : Nat)) ∧ Fr (fun _ => False) W2 w') := fun W2 hh => by
      have := rcount_any hh HL.out n j h2 false
      rw [cnt_use] at this
      exact this
    have HB1 : Hid (∀ W2, RA lo G pb cp v w p P n L W2 → Calls Try.prog 60 #[.pointer (some ⟨G, 0, none⟩), .int .i64 s] W2 fun e w' => e = .returned (.int .i64 (budI w p s)) ∧ Fr (fun _ => False) W2 w') := fun W2 hh => rbud_any hh s hs
    have HB2 : Hid (∀ W2, RA lo G pb cp v w p P n L W2 → Calls Try.prog 60 #[.pointer (some ⟨G, 0, none⟩), .int .i64 r] W2 fun e w' => e = .returned (.int .i64 (budI w p r)) ∧ Fr (fun _ => False) W2 w') := fun W2 hh => rbud_any hh r hr
    have i0 : (0 : Int) ≤ i := by omega
    have i1 : (i : Int) < P.length := by have : i < P.length := h3; omega
    have j0 : (0 : Int) ≤ j := by omega
    have j1 : (j : Int) < P.length := by have : j < P.length := h4; omega
    have k2 : (P.length : Int) ≤ 8 := by have := (cfg_ok h.ok).2.2.2.1; omega
    have u1 : ((useL L w n i : Nat) : Int) ≤ 1000 := by have : useL L w n i ≤ L.length := List.countP_le_length; omega
    have u2 : ((useL L w n j : Nat) : Int) ≤ 1000 := by have : useL L w n j ≤ L.length := List.countP_le_length; omega
    clear h hl hz h1 h2 h3 h4 ht hs hr eb ec hcl hcr hB
    generalize budI w p s = x at HB1 b1 ⊢
    generalize budI w p r = y at HB2 b2 ⊢
    generalize useL L w n i = ui at HC1 u1 ⊢
    generalize useL L w n j = uj at HC2 u2 ⊢
    obtain ⟨x0, x1⟩ := b1
    obtain ⟨y0, y1⟩ := b2
    have ui0 : (0 : Int) ≤ ui := by omega
    have uj0 : (0 : Int) ≤ uj := by omega
    obtain ⟨zz, hzz⟩ : ∃ zz, cmpV x ui y uj = zz := ⟨_, rfl⟩
    rw [hzz]
    have HZ := Lib.hid hzz
    obtain ⟨ml0, ml1⟩ := mul_small (x := (ui : Int)) (y := y) ⟨by omega, by omega⟩ ⟨y0, y1⟩
    obtain ⟨mr0, mr1⟩ := mul_small (x := (uj : Int)) (y := x) ⟨by omega, by omega⟩ ⟨x0, x1⟩
    clear hzz
    go_enter Try.func57, Try.ntmps57
    go_upto_region 4 with (go_at_call 88; refine (HA.out _).mono ?_; rintro e W2 ⟨rfl, f2⟩; have F2 := Lib.hid f2; clear f2)
    have c4 : W2.cell? ⟨G, 4, none⟩ = some (.int .i64 (T : Int)) := (HH.out.row.fr F2.out id).cell 4
    have f4 : W2.frozen? ⟨G, 4, none⟩ = false := (HH.out.row.fr F2.out id).frozen 4
    go_upto_region 5 with (fail)
    have HT := Lib.hid ((HH.out.rest F2.out).tell n)
    have HF : Hid (Fr (fun k => k = G) W (W2.setCell ⟨G, 4, none⟩ (.int .i64 (n : Int)))) := (F2.out.mono fun _ _ e => e.elim).trans (Fr.set _ _ _ _ rfl)
    clear c4 f4
    generalize W2.setCell _ _ = W3 at HT HF ⊢
    have c2 : W3.cell? ⟨G, 2, none⟩ = some (.slice (some ⟨pb, 0, none⟩) P.length cp) := HT.out.row.cell 2
    have c3 : W3.cell? ⟨pb, i * 2, none⟩ = some (.int .i64 s) := (HCL.out _ HF.out).1
    have c4 : W3.cell? ⟨pb, j * 2, none⟩ = some (.int .i64 r) := (HCR.out _ HF.out).1
    have HKd : Hid (∀ W2, Fr (fun _ => False) W3.drew W2 → W2.cell? ⟨G, 2, none⟩ = some (.slice (some ⟨pb, 0, none⟩) P.length cp) ∧ W2.cell? ⟨pb, i * 2, none⟩ = some (.int .i64 s) ∧ W2.cell? ⟨pb, j * 2, none⟩ = some (.int .i64 r)) := fun W2 f => ⟨((show RowAt W3.drew G _ _ from HT.out.row).fr f id).cell 2, (HCL.out _ (HF.out.trans ((Fr.drew _ _).trans (f.mono fun _ _ e => e.elim)))).1, (HCR.out _ (HF.out.trans ((Fr.drew _ _).trans (f.mono fun _ _ e => e.elim)))).1⟩
    have n1 := HB1
    go_region_held3 (fun w' => w'.cell? ⟨G, 2, none⟩ = some (.slice (some ⟨pb, 0, none⟩) P.length cp) ∧ w'.cell? ⟨pb, i * 2, none⟩ = some (.int .i64 s) ∧ w'.cell? ⟨pb, j * 2, none⟩ = some (.int .i64 r))
      (first | (with_reducible exact HKd.out _ F5.out) | (with_reducible exact HKd.out _ F4.out) | exact ⟨c2, c3, c4⟩ | go_keep)
      (first
        | (go_at_call 60; refine (n1.out _ (HT.out.rest (Fr.drew _ _))).mono ?_; clear n1; rintro e W4 ⟨rfl, f4⟩; have F4 := Lib.hid f4; clear f4)
        | (go_at_call 60; refine (HB2.out _ ((HT.out.rest (Fr.drew _ _)).rest F4.out)).mono ?_; rintro e W5 ⟨rfl, f5⟩; have F5 := Lib.hid (F4.out.trans f5); clear f5))
    have H5 := Lib.hid ((HT.out.rest (Fr.drew _ _)).rest F5.out)
    have HF5 : Hid (Fr (fun k => k = G) W W5) := HF.out.trans ((Fr.drew _ _).trans (F5.out.mono fun _ _ e => e.elim))
    clear c2 c3 c4
    by_cases ex : x = 0
    · by_cases ey : y = 0
      · have HE : Hid (zz = 0) := by show _ = _; rw [← HZ.out, cmpV, if_pos (.inl ex), cmp3, ex, ey]; rfl
        subst ex ey
        go_wp2
        go_ret2
        exact ⟨by rw [HE.out] <;> rfl, ⟨pb, cp, v, H5.out⟩, HF5.out⟩
      · have HE : Hid (zz = 1) := by show _ = _; rw [← HZ.out, cmpV, if_pos (.inl ex), cmp3, ex, if_neg (by omega), if_pos (by omega)]
        have ey' : (y == 0) = false := by simpa using ey
        subst ex
        clear ey
        go_wp2
        go_ret2
        exact ⟨by rw [HE.out] <;> rfl, ⟨pb, cp, v, H5.out⟩, HF5.out⟩
    · have ex' : (x == 0) = false := by simpa using ex
      by_cases ey : y = 0
      · have HE : Hid (zz = -1) := by show _ = _; rw [← HZ.out, cmpV, if_pos (.inr ey), cmp3, ey, if_pos (by omega)]
        subst ey
        clear ex
        go_wp2
        go_ret2
        exact ⟨by rw [HE.out] <;> rfl, ⟨pb, cp, v, H5.out⟩, HF5.out⟩
      · have ey' : (y == 0) = false := by simpa using ey
        have HE : Hid (zz = if (ui : Int) * y < uj * x then -1 else if (uj : Int) * x < ui * y then 1 else 0) := by show _ = _; rw [← HZ.out, cmpV, if_neg (by omega), cmp3]
        clear ex ey
        go_upto_region 12 with (fail)
        have n2 := HC1
        go_upto_region 13 with (first
          | (go_at_call 89; refine (n2.out _ H5.out).mono ?_; clear n2; rintro e W6 ⟨rfl, f6⟩; have F6 := Lib.hid f6; clear f6)
          | (go_at_call 89; refine (HC2.out _ (H5.out.rest F6.out)).mono ?_; rintro e W7 ⟨rfl, f7⟩; have F7 := Lib.hid (F6.out.trans f7); clear f7))
        by_cases g1 : (ui : Int) * y < uj * x
        · rw [if_pos g1] at HE
          go_wp2
          go_ret2
          exact ⟨by rw [HE.out] <;> rfl, ⟨pb, cp, v, H5.out.rest F7.out⟩, HF5.out.trans (F7.out.mono fun _ _ e => e.elim)⟩
        · rw [if_neg g1] at HE
          by_cases g2 : (uj : Int) * x < ui * y
          · rw [if_pos g2] at HE
            go_wp2
            go_ret2
            exact ⟨by rw [HE.out] <;> rfl, ⟨pb, cp, v, H5.out.rest F7.out⟩, HF5.out.trans (F7.out.mono fun _ _ e => e.elim)⟩
          · rw [if_neg g2] at HE
            go_wp2
            go_ret2
            exact ⟨by rw [HE.out] <;> rfl, ⟨pb, cp, v, H5.out.rest F7.out⟩, HF5.out.trans (F7.out.mono fun _ _ e => e.elim)⟩
end Go.Proofs.Ytbjpaemldnoinaa
