/- The contract of the specification's number. -/
import Derived.Test.YtnnmmkimdknbgaaDoorTi
namespace Go.Proofs.YtnnmmkimdknbgaaDoor
open Go.RowKit
set_option linter.unusedVariables false

/-- The leading digits, at most as many as the first number says: their value, their count. -/
def scan : Nat → Nat → List UInt8 → Nat × Nat
  | 0, n, _ => (n, 0)
  | _ + 1, n, [] => (n, 0)
  | f + 1, n, b :: r => if 48 ≤ b.toNat ∧ b.toNat ≤ 57 then ((scan f (10 * n + (b.toNat - 48)) r).1, (scan f (10 * n + (b.toNat - 48)) r).2 + 1) else (n, 0)
theorem scan_step (s : ByteArray) (f n p : Nat) (h : p < s.size) : scan (f + 1) n (s.data.toList.drop p) = if 48 ≤ (s[p]'h).toNat ∧ (s[p]'h).toNat ≤ 57 then ((scan f (10 * n + ((s[p]'h).toNat - 48)) (s.data.toList.drop (p + 1))).1, (scan f (10 * n + ((s[p]'h).toNat - 48)) (s.data.toList.drop (p + 1))).2 + 1) else (n, 0) := by
  have hl : p < s.data.toList.length := h
  rw [List.drop_eq_getElem_cons hl, scan]
  rfl
theorem scan_end (s : ByteArray) (f n p : Nat) (h : s.size ≤ p) : scan f n (s.data.toList.drop p) = (n, 0) := by
  have : s.data.toList.length ≤ p := h
  rw [List.drop_eq_nil_of_le this]
  cases f <;> rfl
/-- A number's text and a line feed at the head of a list: the number, the count of its digits. -/
def numV (bs : List UInt8) : Option (Nat × Nat) :=
  if (scan 10 0 bs).2 < 1 ∨ 9 < (scan 10 0 bs).2 ∨ (1 < (scan 10 0 bs).2 ∧ bs.head? = some 48) ∨ bs[(scan 10 0 bs).2]? ≠ some 10 then none else some (scan 10 0 bs)
def numR (f : Nat) : Option (Nat × Nat) → Ending
  | none => .returned (.tuple #[.int .i64 0, .int .i64 (-1)])
  | some q => .returned (.tuple #[.int .i64 (q.1 : Int), .int .i64 ((f + q.2 : Nat) : Int)])

theorem numV_eq (s : ByteArray) (f : Nat) (q : Nat × Nat) (hq : scan 10 0 (s.data.toList.drop f) = q) : numV (s.data.toList.drop f) = if q.2 < 1 ∨ 9 < q.2 ∨ (1 < q.2 ∧ s.data.toList[f]? = some 48) ∨ s.data.toList[f + q.2]? ≠ some 10 then none else some q := by
  rw [numV, hq, List.head?_drop, List.getElem?_drop]
theorem byte_at (s : ByteArray) (p : Nat) (h : p < s.size) : s.data.toList[p]? = some (s[p]'h) := by
  have hl : p < s.data.toList.length := h
  rw [List.getElem?_eq_getElem hl]; rfl
theorem byte_is (s : ByteArray) (p : Nat) (h : p < s.size) (b : UInt8) : s.data.toList[p]? = some b ↔ (s[p]'h).toNat = b.toNat := by
  rw [byte_at s p h, Option.some.injEq, ← UInt8.toNat_inj]

set_option maxHeartbeats 4000000 in
set_option maxRecDepth 100000 in
theorem rnum_any (s : ByteArray) (f : Nat) (hf : f ≤ s.size) (hs : s.size ≤ 65536) (w : World) :
    Calls Tryd.prog 29 #[.string s, .int .i64 f] w fun e w' => e = numR f (numV (s.data.toList.drop f)) ∧ w = w' := by
  generalize hq : scan 10 0 (s.data.toList.drop f) = q
  have HQ := Lib.hid hq
  clear hq
  go_enter Tryd.func29, Tryd.ntmps29
  go_wp2
  go_loop [6, 7] (fun n i => ∃ j m : Nat, j ≤ 10 ∧ f + j ≤ s.size ∧ n = .int .i64 m ∧ i = .int .i64 ((f + j : Nat) : Int) ∧ m < 10 ^ j ∧ Hid (q.1 = (scan (10 - j) m (s.data.toList.drop (f + j))).1 ∧ q.2 = j + (scan (10 - j) m (s.data.toList.drop (f + j))).2)) (fun _ i => s.size - (intOf i).toNat)
  case atStart => exact ⟨0, 0, by omega, by omega, rfl, rfl, by decide, by show _ ∧ _; rw [← HQ.out]; simp⟩
  case round =>
    obtain ⟨j, m, hj, hfj, rfl, rfl, hm, HK⟩ := hrel
    have hcast : ((f + j : Nat) : Int) = (f : Int) + (j : Int) := by omega
    by_cases hlt : f + j < s.size
    · by_cases h10 : j < 10
      · have hst := scan_step s (9 - j) m (f + j) hlt
        rw [show 9 - j + 1 = 10 - j from by omega] at hst
        have k0 : (0 : Int) ≤ (f : Int) + j := by omega
        have k1 : (f : Int) + j < s.size := by omega
        have k2 : (f : Int) + j - f < 10 := by omega
        have k3 : ((f : Int) + j).toNat = f + j := by omega
        by_cases c1 : (s[f + j]'hlt).toNat < 48
        · rw [if_neg (by omega)] at hst
          have hk := HK.out
          rw [hst] at hk
          obtain ⟨hq1, hq2⟩ := hk
          simp only [Nat.add_zero] at hq1 hq2
          have hq : q = (m, j) := Prod.ext hq1 hq2
          have hv := numV_eq s f q HQ.out
          rw [hq] at hv
          simp only at hv
          have ci : ((s[f + j]'hlt).toNat : Int) < 48 := by omega
          clear hst hq1 hq2 hq
          by_cases c3 : (s[f + j]'hlt).toNat = 10
          · have hb : s.data.toList[f + j]? = some 10 := (byte_is s _ hlt 10).2 c3
            have ce : (((s[f + j]'hlt).toNat : Int) != 10) = false := by rw [c3]; rfl
            by_cases j0 : j = 0
            · have HE : Hid (numV (s.data.toList.drop f) = none) := by show _ = _; rw [hv, if_pos (Or.inl (by omega))]
              have cj : (f : Int) + j - f < 1 := by omega
              clear hv j0
              go_wp2
              all_goals (go_ret2; exact ⟨by rw [HE.out]; rfl, rfl⟩)
            · have hf2 : f < s.size := by omega
              by_cases j9 : j = 10
              · omega
              by_cases jz : 1 < j ∧ (s[f]'hf2).toNat = 48
              · have HE : Hid (numV (s.data.toList.drop f) = none) := by show _ = _; rw [hv, if_pos (Or.inr (Or.inr (Or.inl ⟨jz.1, (byte_is s f hf2 48).2 jz.2⟩)))]
                have cz : (((s[f]'hf2).toNat : Int) == 48) = true := by rw [jz.2]; rfl
                have ck : ¬ ((f : Int) + j - f < 1) := by omega
                have cl : ¬ ((9 : Int) < (f : Int) + j - f) := by omega
                have cm : (1 : Int) < (f : Int) + j - f := by omega
                clear hv
                go_wp2
                all_goals (go_ret2; exact ⟨by rw [HE.out]; rfl, rfl⟩)
              · have HE : Hid (numV (s.data.toList.drop f) = some (m, j)) := by
                  show _ = _
                  rw [hv, if_neg]
                  rintro (h | h | ⟨h1, h2⟩ | h)
                  · omega
                  · omega
                  · exact jz ⟨h1, (byte_is s f hf2 48).1 h2⟩
                  · exact h hb
                have HF : Hid (numR f (numV (s.data.toList.drop f)) = .returned (.tuple #[.int .i64 (m : Int), .int .i64 ((f : Int) + j)])) := by show _ = _; rw [HE.out, ← hcast]; rfl
                have ck : (1 : Int) ≤ (f : Int) + j - f := by omega
                have cl : (f : Int) + j - f ≤ 9 := by omega
                clear hv HE
                by_cases j1 : j = 1
                · have cm : (f : Int) + j - f ≤ 1 := by omega
                  clear j1
                  go_wp2
                  all_goals (go_ret2; exact ⟨by rw [HF.out]; rfl, rfl⟩)
                · have cm : (1 : Int) < (f : Int) + j - f := by omega
                  have cz : (((s[f]'hf2).toNat : Int) == 48) = false := beq_eq_false_iff_ne.2 (fun h => jz ⟨by omega, by omega⟩)
                  go_wp2
                  all_goals (go_ret2; exact ⟨by rw [HF.out]; rfl, rfl⟩)
          · have HE : Hid (numV (s.data.toList.drop f) = none) := by show _ = _; rw [hv, if_pos (Or.inr (Or.inr (Or.inr fun h => c3 ((byte_is s _ hlt 10).1 h))))]
            have ce : (((s[f + j]'hlt).toNat : Int) != 10) = true := by have e : (((s[f + j]'hlt).toNat : Int) == 10) = false := beq_eq_false_iff_ne.2 (by omega); rw [bne, e]; rfl
            clear hv
            go_wp2
            all_goals (go_ret2; exact ⟨by rw [HE.out]; rfl, rfl⟩)
        · by_cases c2 : 57 < (s[f + j]'hlt).toNat
          · rw [if_neg (by omega)] at hst
            have hk2 := HK.out.2
            rw [hst] at hk2
            simp only [Nat.add_zero] at hk2
            have HE : Hid (numV (s.data.toList.drop f) = none) := by
              show _ = _
              rw [numV_eq s f q HQ.out, hk2, if_pos (Or.inr (Or.inr (Or.inr fun h => by have := (byte_is s _ hlt 10).1 h; have e : (10 : UInt8).toNat = 10 := rfl; omega)))]
            have ci : ¬ ((s[f + j]'hlt).toNat : Int) < 48 := by omega
            have ck : (57 : Int) < ((s[f + j]'hlt).toNat : Int) := by omega
            have ce : (((s[f + j]'hlt).toNat : Int) != 10) = true := by have e : (((s[f + j]'hlt).toNat : Int) == 10) = false := beq_eq_false_iff_ne.2 (by omega); rw [bne, e]; rfl
            clear hst hk2
            go_wp2
            all_goals (go_ret2; exact ⟨by rw [HE.out]; rfl, rfl⟩)
          · rw [if_pos ⟨by omega, by omega⟩] at hst
            have HE : Hid (q.1 = (scan (10 - (j + 1)) (10 * m + ((s[f + j]'hlt).toNat - 48)) (s.data.toList.drop (f + (j + 1)))).1 ∧ q.2 = (j + 1) + (scan (10 - (j + 1)) (10 * m + ((s[f + j]'hlt).toNat - 48)) (s.data.toList.drop (f + (j + 1)))).2) := by
              have := HK.out
              rw [hst] at this
              rw [show 10 - (j + 1) = 9 - j from by omega, show f + (j + 1) = f + j + 1 from by omega]
              exact ⟨this.1, by have := this.2; simp only at this; omega⟩
            have ci : (48 : Int) ≤ ((s[f + j]'hlt).toNat : Int) := by omega
            have cj : ((s[f + j]'hlt).toNat : Int) ≤ 57 := by omega
            have hp9 : m < 10000000000 := Nat.lt_of_lt_of_le hm (show 10 ^ j ≤ 10 ^ 10 from Nat.pow_le_pow_right (by decide) hj)
            have hpw : 10 * m + ((s[f + j]'hlt).toNat - 48) < 10 ^ (j + 1) := by rw [Nat.pow_succ]; omega
            have hvv : wrap64 (wrap64 (10 * (m : Int)) + (((s[f + j]'hlt).toNat : Int) - 48)) = ((10 * m + ((s[f + j]'hlt).toNat - 48) : Nat) : Int) := by
              rw [IntWalk.wrap64_in (10 * (m : Int)) ⟨by omega, by omega⟩, IntWalk.wrap64_in _ ⟨by omega, by omega⟩]
              omega
            have HVV := Lib.hid hvv
            have k0 : (0 : Int) ≤ (f : Int) + j := by omega
            have k1 : (f : Int) + j < s.size := by omega
            have k2 : (f : Int) + j - f < 10 := by omega
            have k3 : ((f : Int) + j).toNat = f + j := by omega
            clear hvv hp9 hst
            go_wp2
            refine ⟨⟨j + 1, 10 * m + ((s[f + j]'hlt).toNat - 48), by omega, by omega, by rw [HVV.out], by go_num, hpw, HE⟩, ?_⟩
            simp [intOf]; omega
      · obtain rfl : j = 10 := by omega
        have q2 : q.2 = 10 := HK.out.2
        have HE : Hid (numV (s.data.toList.drop f) = none) := by show _ = _; rw [numV_eq s f q HQ.out, if_pos (Or.inr (Or.inl (by omega)))]
        have k0 : (0 : Int) ≤ (f : Int) + (10 : Nat) := by omega
        have k1 : (f : Int) + (10 : Nat) < s.size := by omega
        clear q2
        go_wp2
        all_goals (go_ret2; exact ⟨by rw [HE.out]; rfl, rfl⟩)
    · have hfj2 : f + j = s.size := by omega
      have hk2 := HK.out.2
      rw [scan_end s _ _ _ (by omega)] at hk2
      have HE : Hid (numV (s.data.toList.drop f) = none) := by
        show _ = _
        rw [numV_eq s f q HQ.out, if_pos (Or.inr (Or.inr (Or.inr ?_)))]
        rw [hk2, List.getElem?_eq_none (by show s.size ≤ _; simp only; omega)]
        simp
      have k0 : (0 : Int) ≤ (f : Int) + j := by omega
      have k1 : ¬ (f : Int) + j < s.size := by omega
      clear hk2
      go_wp2
      all_goals (go_ret2; exact ⟨by rw [HE.out]; rfl, rfl⟩)
end Go.Proofs.YtnnmmkimdknbgaaDoor
