/- ReadyPlays: the reference's best, Best. -/
import Derived.Test.YtbjpaemldnoinaaQc
namespace Go.Proofs.Ytbjpaemldnoinaa
open Go.RowKit
set_option linter.unusedVariables false

/-- The index of the first entry that may run where bit b stands for, counted from k, or -1. -/
def bitE (b : Int) : List EnR → Nat → Int
  | [], _ => -1
  | x :: r, k => if x.m / b % 2 = 1 then (k : Int) else bitE b r (k + 1)
theorem bitE_hit {b : Int} {l : List EnR} {i : Nat} {x : EnR} (hx : l[i]? = some x) (h : bitE b (l.drop i) i = bitE b l 0) (e : x.m / b % 2 = 1) : bitE b l 0 = i := by
  have hi : i < l.length := (List.getElem?_eq_some_iff.1 hx).1
  rw [← h, List.drop_eq_getElem_cons hi, (List.getElem?_eq_some_iff.1 hx).2, bitE, if_pos e]
theorem bitE_miss {b : Int} {l : List EnR} {i : Nat} {x : EnR} (hx : l[i]? = some x) (h : bitE b (l.drop i) i = bitE b l 0) (e : ¬ x.m / b % 2 = 1) : bitE b (l.drop (i + 1)) (i + 1) = bitE b l 0 := by
  have hi : i < l.length := (List.getElem?_eq_some_iff.1 hx).1
  rw [List.drop_eq_getElem_cons hi, (List.getElem?_eq_some_iff.1 hx).2, bitE, if_neg e] at h
  exact h
/-- What best answers. -/
def bstE (pr : Int) (l : List EnR) : Int × Int := if pr < 0 ∨ 7 < pr then (0, 34) else if bitE (2 ^ pr.toNat) l 0 < 0 then (0, 22) else (bitE (2 ^ pr.toNat) l 0, 0)
theorem pow_le7 (k : Nat) (h : k ≤ 7) : (1 : Int) ≤ 2 ^ k ∧ (2 : Int) ^ k ≤ 128 := by
  match k, h with
  | 0, _ | 1, _ | 2, _ | 3, _ | 4, _ | 5, _ | 6, _ | 7, _ => decide
set_option maxRecDepth 100000 in
set_option maxHeartbeats 1000000 in
theorem rbest_any {W : World} {lo R : Nat} {l : List EnR} (h : RQ lo R l W) (hl : l.length ≤ 256) (hm : ∀ x ∈ l, 0 ≤ x.m ∧ x.m < 256) (pr : Int) : Calls Try.prog 83 #[.pointer (some ⟨R, 0, none⟩), .int .i64 pr] W fun e w' => e = .returned (.tuple #[.int .i64 (bstE pr l).1, .int .i64 (bstE pr l).2]) ∧ W = w' := by
  obtain ⟨v, h⟩ := h
  obtain ⟨a, c, hv⟩ := own_shape h.own
  subst hv
  have c0 : W.cell? ⟨R, 0, none⟩ = some (.slice a l.length c) := h.row.cell 0
  have HO := Lib.hid h.own
  have HM := Lib.hid hm
  clear h hm
  by_cases h1 : pr < 0
  · have HV : Hid (bstE pr l = (0, 34)) := by show _ = _; rw [bstE, if_pos (.inl h1)]
    generalize bstE pr l = v at HV ⊢
    go_enter Try.func83, Try.ntmps83
    go_wp2
    go_ret2
    exact ⟨by rw [HV.out] <;> rfl, rfl⟩
  by_cases h2 : 7 < pr
  · have HV : Hid (bstE pr l = (0, 34)) := by show _ = _; rw [bstE, if_pos (.inr h2)]
    generalize bstE pr l = v at HV ⊢
    go_enter Try.func83, Try.ntmps83
    go_wp2
    go_ret2
    exact ⟨by rw [HV.out] <;> rfl, rfl⟩
  obtain ⟨p, rfl⟩ : ∃ p : Nat, pr = p := ⟨pr.toNat, by omega⟩
  have HV : Hid (bstE p l = if bitE (2 ^ p) l 0 < 0 then (0, 22) else (bitE (2 ^ p) l 0, 0)) := by show _ = _; rw [bstE, if_neg (by omega), Int.toNat_natCast]
  generalize bstE p l = v at HV ⊢
  have p7 : (p : Int) ≤ 7 := by omega
  have p0 : (0 : Int) ≤ p := by omega
  go_enter Try.func83, Try.ntmps83
  go_wp2
  go_loop [6, 7] (fun vb vi => ∃ k : Nat, vi = .int .i64 k ∧ vb = .int .i64 (2 ^ k) ∧ Hid (k ≤ p)) (fun vb vi => p - (intOf vi).toNat)
  case atStart => exact ⟨0, rfl, rfl, Nat.zero_le _⟩
  case round =>
    obtain ⟨k, rfl, rfl, HK⟩ := hrel
    by_cases hk : k < p
    · have k1 : (k : Int) < p := by omega
      have k0 : (0 : Int) ≤ k := by omega
      have HKK := Lib.hid hk
      obtain ⟨q0, q1⟩ := pow_le7 k (by omega)
      have HP : Hid ((2 : Int) ^ k * 2 = 2 ^ (k + 1)) := by show _ = _; rw [Int.pow_succ]
      generalize (2 : Int) ^ k = z at q0 q1 HP
      clear hk
      go_wp2
      go_round
      case rel => exact ⟨k + 1, rfl, congrArg (Value.int .i64) HP.out, HKK.out⟩
      case measure =>
        have := HKK.out
        show p - (intOf (Value.int .i64 ((k : Int) + 1))).toNat < p - (intOf (Value.int .i64 (k : Int))).toNat
        simp only [intOf]
        omega
    · have hkp : k = p := by have := HK.out; omega
      subst hkp
      have hlt : ¬ (k : Int) < k := by omega
      obtain ⟨q0, q1⟩ := pow_le7 k (by omega)
      generalize (2 : Int) ^ k = z at q0 q1 HV
      have HQ : Hid (1 ≤ z) := q0
      clear hk
      go_upto_region 10 with (fail)
      clear p7 p0 hlt h1 h2
      go_wp2
      go_loop [8] (fun vi => ∃ i : Nat, vi = .int .i64 i ∧ Hid (i ≤ l.length ∧ bitE z (l.drop i) i = bitE z l 0)) (fun vi => l.length - (intOf vi).toNat)
      case atStart => exact ⟨0, rfl, Nat.zero_le _, rfl⟩
      case round =>
        obtain ⟨i, rfl, HR⟩ := hrel
        by_cases hi : i < l.length
        · obtain ⟨g, cap, hv, _, hcap, hcells, _⟩ := own_someE HO.out (by omega)
          injection hv with hv
          subst hv
          obtain ⟨x, hx⟩ : ∃ x, l[i]? = some x := ⟨_, List.getElem?_eq_getElem hi⟩
          have d0 := (hcells i x hx).2.2
          obtain ⟨m0, m1⟩ := HM.out x (List.mem_of_getElem? hx)
          have i0 : (0 : Int) ≤ i := by omega
          have i1 : (i : Int) < l.length := by omega
          have i2 : (i : Int) < 256 := by omega
          have HX := Lib.hid hx
          have HI := Lib.hid hi
          have t1 : x.m.tdiv z = x.m / z := Int.tdiv_eq_ediv_of_nonneg m0
          have t2 : 0 ≤ x.m / z := Int.ediv_nonneg m0 (by omega)
          have t3 : x.m / z ≤ 256 := by have := Int.ediv_le_self z m0; omega
          have t4 : (x.m / z).tmod 2 = x.m / z % 2 := Int.tmod_eq_emod_of_nonneg t2
          clear hcap
          by_cases he : x.m / z % 2 = 1
          · have HE := Lib.hid he
            have he' : (x.m / z % 2 == 1) = true := by simpa using he
            clear hi hx hcells he hl
            go_upto_region 13 with (fail)
            go_wp2
            go_ret2
            exact ⟨by rw [HV.out, bitE_hit HX.out HR.out.2 HE.out, if_neg (by omega)] <;> rfl, rfl⟩
          · have HE := Lib.hid he
            have he' : (x.m / z % 2 == 1) = false := by simpa using he
            clear hi hx hcells he hl
            go_upto_region 13 with (fail)
            go_wp2
            go_round
            case rel => exact ⟨i + 1, rfl, HI.out, bitE_miss HX.out HR.out.2 HE.out⟩
            case measure =>
              have := HI.out
              show l.length - (intOf (Value.int .i64 ((i : Int) + 1))).toNat < l.length - (intOf (Value.int .i64 (i : Int))).toNat
              simp only [intOf]
              omega
        · have hlt : ¬ (i : Int) < l.length := by omega
          have HI : Hid (i = l.length) := by have := HR.out.1; show _ = _; omega
          clear hi
          go_wp2
          go_ret2
          have e := HR.out.2
          rw [HI.out, List.drop_length] at e
          exact ⟨by rw [HV.out, ← e, bitE, if_pos (by decide)] <;> rfl, rfl⟩
theorem bitE_at {b : Int} : ∀ {l : List EnR} {k : Nat}, 0 ≤ bitE b l k → ∃ (i : Nat) (x : EnR), bitE b l k = ((k + i : Nat) : Int) ∧ l[i]? = some x
  | [], k, h => by rw [bitE] at h; omega
  | x :: r, k, h => by
    rw [bitE] at h ⊢
    by_cases e : x.m / b % 2 = 1
    · rw [if_pos e]; exact ⟨0, x, rfl, rfl⟩
    · rw [if_neg e] at h ⊢
      obtain ⟨i, y, h1, h2⟩ := bitE_at h
      exact ⟨i + 1, y, by rw [h1]; omega, by simpa using h2⟩
theorem bstE_cases (pr : Int) (l : List EnR) : (∃ z, bstE pr l = (0, z) ∧ z ≠ 0) ∨ ∃ (i : Nat) (x : EnR), bstE pr l = ((i : Int), 0) ∧ l[i]? = some x := by
  rw [bstE]
  split
  · exact .inl ⟨34, rfl, by decide⟩
  · split
    · exact .inl ⟨22, rfl, by decide⟩
    · obtain ⟨i, x, h1, h2⟩ := bitE_at (b := 2 ^ pr.toNat) (l := l) (k := 0) (by omega)
      rw [Nat.zero_add] at h1
      exact .inr ⟨i, x, by rw [h1], h2⟩
/-- What Best and Take answer. -/
def btE (pr : Int) (l : List EnR) : Int × Int := if (bstE pr l).2 = 0 then (match l[(bstE pr l).1.toNat]? with | some x => (x.t, 0) | none => (0, 0)) else (0, (bstE pr l).2)
set_option maxRecDepth 100000 in
set_option maxHeartbeats 1000000 in
theorem rBest_any {W : World} {lo R : Nat} {l : List EnR} (h : RQ lo R l W) (hl : l.length ≤ 256) (hm : ∀ x ∈ l, 0 ≤ x.m ∧ x.m < 256) (pr : Int) : Calls Try.prog 45 #[.pointer (some ⟨R, 0, none⟩), .int .i64 pr] W fun e w' => e = .returned (.tuple #[.int .i64 (btE pr l).1, .int .i64 (btE pr l).2]) ∧ W = w' := by
  have HI := Lib.hid (rbest_any h hl hm pr)
  obtain ⟨v, h⟩ := h
  obtain ⟨a, c, hv⟩ := own_shape h.own
  subst hv
  have c0 : W.cell? ⟨R, 0, none⟩ = some (.slice a l.length c) := h.row.cell 0
  have HO := Lib.hid h.own
  clear h hm
  rcases bstE_cases pr l with ⟨z, hf, hz⟩ | ⟨i, x, hf, hx⟩
  · have HV : Hid (btE pr l = (0, z)) := by show _ = _; rw [btE, hf, if_neg hz]
    rw [hf] at HI
    generalize btE pr l = v at HV ⊢
    have hz' : (z != 0) = true := by simpa using hz
    clear hf hz
    go_enter Try.func45, Try.ntmps45
    go_wp2_with (go_at_call 83; refine HI.out.mono ?_; rintro e w' ⟨rfl, rfl⟩)
    go_ret2
    exact ⟨by rw [HV.out] <;> rfl, rfl⟩
  · have HV : Hid (btE pr l = (x.t, 0)) := by show _ = _; rw [btE, hf, if_pos rfl]; show (match l[((i : Int)).toNat]? with | some x => (x.t, (0 : Int)) | none => (0, 0)) = _; rw [Int.toNat_natCast, hx]
    rw [hf] at HI
    generalize btE pr l = v at HV ⊢
    have hi : i < l.length := (List.getElem?_eq_some_iff.1 hx).1
    obtain ⟨g, cap, hv, _, hcap, hcells, _⟩ := own_someE HO.out (by omega)
    injection hv with hv
    subst hv
    have d0 := (hcells i x hx).1
    have i0 : (0 : Int) ≤ i := by omega
    have i1 : (i : Int) < l.length := by omega
    clear hf hx hcells hi
    go_enter Try.func45, Try.ntmps45
    go_wp2_with (go_at_call 83; refine HI.out.mono ?_; rintro e w' ⟨rfl, rfl⟩)
    go_ret2
    exact ⟨by rw [HV.out] <;> rfl, rfl⟩
end Go.Proofs.Ytbjpaemldnoinaa
