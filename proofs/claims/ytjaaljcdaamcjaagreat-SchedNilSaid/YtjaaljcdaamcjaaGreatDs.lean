/- Package sched: assign, for threads that did not run yet and with nobody held. -/
import Derived.Test.YtjaaljcdaamcjaaGreatDr
import Derived.Test.YtjaaljcdaamcjaaGreatShelf
namespace Go.Proofs.YtjaaljcdaamcjaaGreat
open Go.RowKit Go.Proofs.YtjaaljcdaamcjaaGreat.Pa
set_option linter.unusedVariables false

/-- Block b begins with these numbers. -/
def StA (W : World) (b : Nat) (l : List Int) : Prop := ∃ cs : Array Value, RowAt W b 3 cs ∧ ∀ (i : Nat) (x : Int), l[i]? = some x → cs[i]? = some (.int .i64 x)
theorem StA.nums {W : World} {b : Nat} {l : List Int} (h : StA W b l) : NumsAt W b 0 l := by
  obtain ⟨cs, h1, h2⟩ := h
  exact ⟨h1.lt, fun i x hx => by rw [Nat.zero_add, h1.cell]; exact h2 i x hx⟩
theorem StA.fr {W W' : World} {b : Nat} {l : List Int} {X : Nat → Prop} (h : StA W b l) (hf : Fr X W W') (hne : ¬ X b) : StA W' b l := by
  obtain ⟨cs, h1, h2⟩ := h; exact ⟨cs, h1.fr hf hne, h2⟩
theorem StA.set {W : World} {b : Nat} {l : List Int} (h : StA W b l) (p : Nat) (v : Int) (hp : p < l.length) : StA (W.setCell ⟨b, p, none⟩ (.int .i64 v)) b (l.set p v) := by
  obtain ⟨cs, h1, h2⟩ := h
  refine ⟨_, h1.set p _, fun i x hx => ?_⟩
  rw [List.getElem?_set] at hx
  rw [Array.getElem?_setIfInBounds]
  have hlt : p < cs.size := by
    have := h2 p _ (List.getElem?_eq_getElem hp)
    exact (Array.getElem?_eq_some_iff.1 this).1
  by_cases e : p = i
  · subst e
    simp [hp] at hx
    rw [if_pos rfl, if_pos hlt, hx]
  · rw [if_neg e] at hx
    rw [if_neg e]
    exact h2 i x hx
theorem StA.frozen {W : World} {b : Nat} {l : List Int} (h : StA W b l) (p : Nat) : W.frozen? ⟨b, p, none⟩ = false := by
  obtain ⟨cs, h1, h2⟩ := h; exact h1.frozen p
theorem sta_own {W : World} {lo n : Nat} {v : Value} {l : List Int} (h : W.ownsRow lo 3 1 v n (l.map (Value.int .i64))) (hn : v ≠ .slice none 0 0) : ∃ b cap, v = .slice (some ⟨b, 0, none⟩) n cap ∧ lo ≤ b ∧ StA W b l := by
  rcases h.2 with ⟨h1, _⟩ | ⟨g, cap, cur, h1, h2, h3, h4, h5, h6, h7⟩
  · exact absurd h1 hn
  · refine ⟨g, cap, h1, h2, cur, h3, fun i x hx => ?_⟩
    have : (l.map (Value.int .i64))[i]? = some (.int .i64 x) := by rw [List.getElem?_map, hx]; rfl
    rw [← h7] at this
    rw [List.getElem?_take] at this
    split at this
    · simpa using this
    · cases this
/-- The seats after these threads. -/
def seatAll (n : Nat) : List Cd → List Int → List Int
  | [], sts => sts
  | c :: r, sts => seatAll n r (match firstFree sts c.msk n 0 with | some p => sts.set p (c.num : Int) | none => sts)
theorem seatAll_app (n : Nat) : ∀ (l m : List Cd) (sts : List Int), seatAll n (l ++ m) sts = seatAll n m (seatAll n l sts)
  | [], _, _ => rfl
  | c :: r, m, sts => by rw [List.cons_append, seatAll, seatAll, seatAll_app n r m]
theorem first_lt (sts : List Int) (m : Int) : ∀ f p q, firstFree sts m f p = some q → q < p + f
  | 0, p, q, h => by cases h
  | f + 1, p, q, h => by
    rw [firstFree] at h
    split at h
    · injection h with h; omega
    · have := first_lt sts m f (p + 1) q h; omega
theorem seatAll_len (n : Nat) : ∀ (l : List Cd) (sts : List Int), (seatAll n l sts).length = sts.length
  | [], _ => rfl
  | c :: r, sts => by
    rw [seatAll, seatAll_len n r]
    split
    · rw [List.length_set]
    · rfl
set_option maxRecDepth 100000 in
set_option maxHeartbeats 4000000 in
theorem assign_new (W : World) (R m : Nat) (cds : List Cd) (hR : Rk W R m cds m) (hlen : cds.length = m) (hm : m ≤ 65536) (hc : ∀ c ∈ cds, c.last = -1 ∧ 0 ≤ c.msk ∧ c.msk < 256) (hb ho cap : Nat) (held : List Int) (hh : NumsAt W hb ho held) (hall : ∀ x ∈ held, x = -1) (hl : 0 < held.length ∧ held.length ≤ 8) (rc : Nat) :
    Calls Tryz.prog 51 #[.slice (some ⟨R, 0, none⟩) m rc, .slice (some ⟨hb, ho, none⟩) held.length cap] W fun e w' => ∃ b cp, e = .returned (.slice (some ⟨b, 0, none⟩) held.length cp) ∧ W.heap.size ≤ b ∧ StA w' b (seatAll held.length cds held) ∧ Fr Non W w' := by
  have HR := Lib.hid hR
  have HLE := Lib.hid hlen
  have HC := Lib.hid hc
  have HH := Lib.hid hh
  have HA := Lib.hid hall
  have HL := Lib.hid hl
  have HCL : Hid (Calls Tryz.prog 95 #[.slice (some ⟨hb, ho, none⟩) held.length cap] W fun e w' => ∃ b cp, e = .returned (.slice (some ⟨b, 0, none⟩) held.length cp) ∧ W.heap.size ≤ b ∧ StA w' b held ∧ Fr Non W w') := by
    refine (Tryz.slices_Clone_int hb ho held.length cap held W (Nat.le_refl _) (by omega) (fun j hj => ?_)).mono ?_
    · rw [hh.2 j _ (List.getElem?_eq_getElem hj), List.getD_eq_getElem?_getD, List.getElem?_eq_getElem hj]; rfl
    · rintro e w' ⟨v', rfl, ho', hne, hbel⟩
      rw [List.take_length] at ho'
      obtain ⟨b, cp, rfl, h1, h2⟩ := sta_own ho' hne
      exact ⟨b, cp, rfl, h1, h2, ⟨hbel.os, hbel.tape, hbel.output, hbel.size, fun k hk _ => hbel.block k hk⟩⟩
  have m0 : (m : Int) ≤ 65536 := by omega
  have l8 : (held.length : Int) ≤ 8 := by omega
  clear hR hlen hc hh hall hl hm
  go_enter Tryz.func51, Tryz.ntmps51
  go_upto_region 3 with (go_at_call 95; refine HCL.out.mono ?_; rintro e W1 ⟨b, cp, rfl, hb1, hs1, f1⟩; have HB := Lib.hid hb1; have HS1 := Lib.hid hs1; have F1 := Lib.hid f1; clear hb1 hs1 f1)
  have HB1 : Hid (b < W1.heap.size) := HS1.out.nums.1
  have HRB : Hid (R < W.heap.size ∧ hb < W.heap.size) := ⟨by obtain ⟨cs, h, _⟩ := HR.out; exact h.lt, HH.out.1⟩
  go_loopw [14] (fun vi wr => ∃ i : Nat, vi = .int .i64 (i : Int) ∧ (i : Int) ≤ m ∧ Hid (StA wr b (seatAll held.length (cds.take i) held) ∧ Fr (fun k => k = b) W1 wr)) (fun vi _ => m - (intOf vi).toNat)
  case atStart => exact ⟨0, rfl, by omega, HS1.out, Fr.refl _ _⟩
  case round =>
    obtain ⟨i, rfl, i1, HI⟩ := hrel
    have i0 : (0 : Int) ≤ i := by omega
    by_cases hlt : (i : Int) < m
    · have HMS : Hid (m - (intOf (Value.int IntKind.i64 ((i : Int) + 1))).toNat < m - (intOf (Value.int IntKind.i64 (i : Int))).toNat) := by
        show _ < _
        simp only [intOf]
        omega
      have hin : i < cds.length := by have := HLE.out; omega
      have hci := List.getElem?_eq_getElem hin
      have hcm := HC.out _ (List.getElem_mem hin)
      have HTK : Hid (cds.take (i + 1) = cds.take i ++ [cds[i]]) := List.take_succ_eq_append_getElem hin
      have HRI := (HR.out.fr F1.out id).fr HI.out.2 (by show ¬ (R = b); have := HRB.out; have := HB.out; omega)
      have HHI := Lib.hid ((HH.out.fr F1.out id).fr HI.out.2 (by show ¬ (hb = b); have := HRB.out; have := HB.out; omega))
      obtain ⟨cs, hcs1, hcs2, hcs3⟩ := HRI
      obtain ⟨q0, q1, q2⟩ := hcs3 i _ (by omega) hci
      generalize cds[i] = c at hci hcm HTK q0 q1 q2
      obtain ⟨n1, n2, n3, n4, n5, n6⟩ := c
      obtain ⟨hl1, hm1, hm2⟩ := hcm
      simp only at hl1 hm1 hm2 q0 q1 q2
      subst hl1
      have d0 : wr.cell? ⟨R, i * 3, none⟩ = some (.int .i64 (n1 : Int)) := by rw [hcs1.cell]; exact q0
      have d1 : wr.cell? ⟨R, i * 3 + 1, none⟩ = some (.int .i64 (-1)) := by rw [hcs1.cell]; exact q1
      have d2 : wr.cell? ⟨R, i * 3 + 2, none⟩ = some (.int .i64 n3) := by rw [hcs1.cell]; exact q2
      clear hci hcs1 hcs2 hcs3 q0 q1 q2 hin
      go_upto_region 5 with (fail)
      have HF7 : Hid (Fr Non wr (wr.alloc (.cells #[.int .i64 (n1 : Int), .int .i64 (-1), .int .i64 n3] 136))) := frA (Fr.refl _ _)
      have HY7 : Hid (RowAt (wr.alloc (.cells #[.int .i64 (n1 : Int), .int .i64 (-1), .int .i64 n3] 136)) wr.heap.size 136 #[.int .i64 (n1 : Int), .int .i64 (-1), .int .i64 n3]) := RowAt.new _ _ _
      have HBW : Hid (b < wr.heap.size) := HI.out.1.nums.1
      clear d0 d1 d2
      generalize wr.alloc _ = W7 at HF7 HY7 ⊢
      obtain ⟨y, hy⟩ : ∃ y, wr.heap.size = y := ⟨_, rfl⟩
      rw [hy] at HY7 HBW ⊢
      clear hy
      have HS7 := Lib.hid (HI.out.1.fr HF7.out id)
      have HCN := Lib.hid (contains_no W7 hb ho cap held (n1 : Int) (HHI.out.fr HF7.out id) (fun hx => by have := HA.out _ hx; omega) (by omega))
      have HSF : Hid (∀ w, NumsAt w b 0 (seatAll held.length (cds.take i) held) → Calls Tryz.prog 96 #[.agg #[.int .i64 (n1 : Int), .int .i64 (-1), .int .i64 n3], .slice (some ⟨b, 0, none⟩) held.length cp] w fun e w' => e = .returned (resV (firstFree (seatAll held.length (cds.take i) held) n3 held.length 0)) ∧ Fr Non w w') := fun w hw => by
        have := seatfor_new w b cp (seatAll held.length (cds.take i) held) (n1 : Int) n3 hw ⟨hm1, hm2⟩ (by rw [seatAll_len]; omega)
        rw [seatAll_len] at this
        exact this
      have e0 : W7.cell? ⟨y, 0, none⟩ = some (.int .i64 (n1 : Int)) := HY7.out.cell 0
      have e1 : W7.cell? ⟨y, 1, none⟩ = some (.int .i64 (-1)) := HY7.out.cell 1
      have e2 : W7.cell? ⟨y, 2, none⟩ = some (.int .i64 n3) := HY7.out.cell 2
      have HIL : Hid ((i : Int) < m) := hlt
      clear hm1 hm2
      cases hff : firstFree (seatAll held.length (cds.take i) held) n3 held.length 0 with
      | none =>
        rw [hff] at HSF
        unfold resV at HSF
        go_wp2_with (first
          | (go_at_call 94; refine HCN.out.mono ?_; rintro e w2 ⟨rfl, f2⟩; subst f2)
          | (go_at_call 96; refine (HSF.out _ HS7.out.nums).mono ?_; rintro e W8 ⟨rfl, f8⟩; have F8 := Lib.hid f8; clear f8))
        go_roundw
        case rel =>
          refine ⟨i + 1, by push_cast; rfl, by have := HIL.out; push_cast; omega, ?_, HI.out.2.trans ((HF7.out.trans F8.out).mono (fun _ _ e => (nomatch e)))⟩
          rw [HTK.out, seatAll_app]
          show StA _ b (match firstFree (seatAll held.length (cds.take i) held) n3 held.length 0 with | some p => _ | none => _)
          rw [hff]
          exact HS7.out.fr F8.out id
        case measure => exact HMS.out
      | some p =>
        have hp : p < held.length := by have := first_lt _ _ _ _ _ hff; omega
        rw [hff] at HSF
        unfold resV at HSF
        have p0 : (0 : Int) ≤ p := by omega
        have p1 : (p : Int) < held.length := by omega
        have HP : Hid (p < (seatAll held.length (cds.take i) held).length) := by show _ < _; rw [seatAll_len]; exact hp
        have HFF := Lib.hid hff
        clear hff hp
        go_wp2_with (first
          | (go_at_call 94; refine HCN.out.mono ?_; rintro e w2 ⟨rfl, f2⟩; subst f2)
          | (go_at_call 96; refine (HSF.out _ HS7.out.nums).mono ?_; rintro e W8 ⟨rfl, f8⟩; have F8 := Lib.hid f8; clear f8 e0 e1 e2; have e0 : W8.cell? ⟨y, 0, none⟩ = some (.int .i64 (n1 : Int)) := (HY7.out.fr F8.out id).cell 0; have r0 : ∃ v, W8.cell? ⟨b, p, none⟩ = some v := ⟨_, by have := (HS7.out.fr F8.out id).nums.2 p _ (List.getElem?_eq_getElem HP.out); rw [Nat.zero_add] at this; exact this⟩; obtain ⟨v8, r8⟩ := r0; have f8 : W8.frozen? ⟨b, p, none⟩ = false := (HS7.out.fr F8.out id).frozen p))
        go_roundw
        case rel =>
          refine ⟨i + 1, by push_cast; rfl, by have := HIL.out; push_cast; omega, ?_, (HI.out.2.trans ((HF7.out.trans F8.out).mono (fun _ _ e => (nomatch e)))).trans (Fr.set _ _ _ _ rfl)⟩
          rw [HTK.out, seatAll_app]
          show StA _ b (match firstFree (seatAll held.length (cds.take i) held) n3 held.length 0 with | some p => _ | none => _)
          rw [HFF.out]
          exact (HS7.out.fr F8.out id).set p _ HP.out
        case measure => exact HMS.out
    · have hil : i = m := by omega
      have HSE : Hid (StA wr b (seatAll held.length cds held)) := by have := HI.out.1; rw [hil, ← HLE.out, List.take_length] at this; exact this
      clear i1
      go_wp2
      go_ret
      exact ⟨b, ⟨cp, rfl⟩, HB.out, HSE.out, Fr.over F1.out HI.out.2 (fun k hk => .inr (by have e2 : k = b := hk; have := HB.out; omega))⟩
end Go.Proofs.YtjaaljcdaamcjaaGreat
