/- The reference's count, budget. -/
import Derived.Test.YtbjpaemldnoinaaHa
namespace Go.Proofs.Ytbjpaemldnoinaa
open Go.RowKit
set_option linter.unusedVariables false

def cpred (w T k : Nat) (cr : Bool) (c : Ch) : Bool := (c.p == k && (decide (T < c.t + w) && decide (c.t < T))) && (c.c || !cr)
def cntL (L : List Ch) (w T k : Nat) (cr : Bool) : Nat := L.countP (cpred w T k cr)
theorem cnt_use (L : List Ch) (w T k : Nat) : cntL L w T k false = useL L w T k := by
  unfold cntL useL
  congr 1
  funext c
  simp [cpred]
theorem cnt_ucr (L : List Ch) (w T k : Nat) : cntL L w T k true = ucrL L w T k := by
  unfold cntL ucrL
  congr 1
  funext c
  simp [cpred, Bool.and_comm]
theorem cnt_le (L : List Ch) (w T k : Nat) (cr : Bool) : cntL L w T k cr ≤ L.length := List.countP_le_length
theorem cnt_take (L : List Ch) (w T k : Nat) (cr : Bool) {i : Nat} {x : Ch} (h : L[i]? = some x) : cntL (L.take (i + 1)) w T k cr = cntL (L.take i) w T k cr + (if cpred w T k cr x = true then 1 else 0) := by
  unfold cntL
  rw [List.take_add_one, h, List.countP_append, Option.toList_some, List.countP_cons, List.countP_nil, Nat.zero_add]

set_option maxRecDepth 100000 in
set_option maxHeartbeats 10000000 in
theorem rcount_any {W : World} {lo G pb cp w p T : Nat} {v : Value} {P : List (Int × Int)} {L : List Ch} (h : RA lo G pb cp v w p P T L W) (hl : L.length ≤ 1000) (n k : Nat) (hn : n ≤ 1099511627776) (cr : Bool) : Calls Try.prog 89 #[.pointer (some ⟨G, 0, none⟩), .int .i64 (n : Int), .int .i64 (k : Int), .bool cr] W fun e w' => e = .returned (.int .i64 (cntL L w n k cr : Nat)) ∧ Fr (fun _ => False) W w' := by
  have HH := Lib.hid h
  have HL := Lib.hid hl
  have n0 : (0 : Int) ≤ n := by omega
  have n1 : (n : Int) ≤ 1099511627776 := by omega
  have hw := (cfg_ok h.ok).1
  have w0 : (1 : Int) ≤ w := by omega
  have w1 : (w : Int) ≤ 1000 := by omega
  have hl' : (L.length : Int) ≤ 1000 := by omega
  clear h hl hw
  obtain ⟨av, cv, hv⟩ := own_shape4 HH.out.own
  have HV := Lib.hid hv
  have HC : Hid (∀ W2, Fr (fun _ => False) W W2 → W2.cell? ⟨G, 0, none⟩ = some (.int .i64 (w : Int)) ∧ W2.cell? ⟨G, 3, none⟩ = some (.slice av L.length cv)) := fun W2 f => ⟨(HH.out.row.fr f id).cell 0, by rw [← HV.out]; exact (HH.out.row.fr f id).cell 3⟩
  have HG : Hid (∀ W2 i, Fr (fun _ => False) W W2 → i < L.length → ∃ g x, av = some ⟨g, 0, none⟩ ∧ L[i]? = some x ∧ W2.cell? ⟨g, i * 3, none⟩ = some (.int .i64 (x.t : Int)) ∧ W2.cell? ⟨g, i * 3 + 1, none⟩ = some (.int .i64 (x.p : Int)) ∧ W2.cell? ⟨g, i * 3 + 2, none⟩ = some (.bool x.c)) := fun W2 i f hi => by
    obtain ⟨g, cap, e1, _, _, e4, _⟩ := own_someC (own_fr4 HH.out.own f (fun _ _ => id)) (by omega)
    rw [HV.out] at e1
    injection e1 with e1 e2
    have hx : L[i]? = some L[i] := List.getElem?_eq_getElem hi
    exact ⟨g, _, e1, hx, e4 i _ hx⟩
  clear hv
  go_enter Try.func89, Try.ntmps89
  go_wp2
  go_loopw [9, 10] (fun vn vi wr => ∃ i : Nat, vi = .int .i64 i ∧ vn = .int .i64 (cntL (L.take i) w n k cr : Nat) ∧ Hid (i ≤ L.length ∧ Fr (fun _ => False) W wr)) (fun vn vi _ => L.length - (intOf vi).toNat)
  case atStart => exact ⟨0, rfl, rfl, Nat.zero_le _, Fr.refl _ _⟩
  case round =>
    obtain ⟨i, rfl, rfl, HR⟩ := hrel
    obtain ⟨c0, c3⟩ := HC.out _ HR.out.2
    have i0 : (0 : Int) ≤ i := by omega
    by_cases hi : i < L.length
    · obtain ⟨g, x, rfl, hx, e0, e1, e2⟩ := HG.out _ i HR.out.2 hi
      have i1 : (i : Int) < L.length := by omega
      have HI := Lib.hid hi
      have HT := Lib.hid (cnt_take L w n k cr hx)
      have HQ : Hid (cntL (L.take i) w n k cr ≤ i) := Nat.le_trans (cnt_le _ _ _ _ _) (by rw [List.length_take]; omega)
      have q1 : ((cntL (L.take i) w n k cr : Nat) : Int) ≤ i := by have := HQ.out; omega
      have HMS : Hid (L.length - (intOf (Value.int IntKind.i64 ((i : Int) + 1))).toNat < L.length - (intOf (Value.int IntKind.i64 (i : Int))).toNat) := by
        show _ < _
        simp only [intOf]
        omega
      generalize cntL (L.take i) w n k cr = m at HT q1 ⊢
      clear hi hx HQ
      obtain ⟨xt, xp, xc⟩ := x
      have e0' : wr.cell? ⟨g, i * 3, none⟩ = some (.int .i64 (xt : Int)) := e0
      have e1' : wr.cell? ⟨g, i * 3 + 1, none⟩ = some (.int .i64 (xp : Int)) := e1
      have e2' : wr.cell? ⟨g, i * 3 + 2, none⟩ = some (.bool xc) := e2
      clear e0 e1 e2
      go_upto_region 6 with (fail)
      have m0 : (0 : Int) ≤ m := by omega
      have HA := Lib.hid (RowAt.new wr 128 #[.int .i64 (xt : Int), .int .i64 (xp : Int), .bool xc])
      have HF1 : Hid (Fr (fun _ => False) W (wr.alloc (.cells #[.int .i64 (xt : Int), .int .i64 (xp : Int), .bool xc] 128))) := HR.out.2.trans (Fr.alloc _ _ _)
      clear c0 c3 e0' e1' e2'
      generalize World.alloc wr _ = W1 at HA HF1 ⊢
      generalize wr.heap.size = y at HA ⊢
      have d0 : W1.cell? ⟨y, 0, none⟩ = some (.int .i64 (xt : Int)) := HA.out.cell 0
      have d1 : W1.cell? ⟨y, 1, none⟩ = some (.int .i64 (xp : Int)) := HA.out.cell 1
      have d2 : W1.cell? ⟨y, 2, none⟩ = some (.bool xc) := HA.out.cell 2
      have c0 := (HC.out _ HF1.out).1
      have t0 : (0 : Int) ≤ xt := by omega
      by_cases b1 : (xp : Int) = k
      · have g1 : ((xp : Int) == k) = true := by simpa using b1
        have B1 : Hid (xp = k) := by show _ = _; omega
        clear b1
        by_cases b2 : (xt : Int) < n
        · have B2 : Hid (xt < n) := by show _ < _; omega
          have g2 : decide ((xt : Int) < n) = true := decide_eq_true b2
          by_cases b3 : (n : Int) - w < xt
          · have B3 : Hid (n < xt + w) := by show _ < _; omega
            have g3 : decide ((n : Int) - w < xt) = true := decide_eq_true b3
            cases cr <;> cases xc
            · go_region
              go_wp2
              go_roundw
              case rel => exact ⟨i + 1, by push_cast; rfl, by rw [HT.out, if_pos (by simp [cpred, B1.out, B2.out, B3.out])]; push_cast; rfl, HI.out, HF1.out.trans (Fr.drew _ _)⟩
              case measure => exact HMS.out
            · go_region
              go_wp2
              go_roundw
              case rel => exact ⟨i + 1, by push_cast; rfl, by rw [HT.out, if_pos (by simp [cpred, B1.out, B2.out, B3.out])]; push_cast; rfl, HI.out, HF1.out.trans (Fr.drew _ _)⟩
              case measure => exact HMS.out
            · go_region
              go_wp2
              go_roundw
              case rel => exact ⟨i + 1, by push_cast; rfl, by rw [HT.out, if_neg (by simp [cpred, B1.out, B2.out, B3.out]), Nat.add_zero], HI.out, HF1.out.trans (Fr.drew _ _)⟩
              case measure => exact HMS.out
            · go_region
              go_wp2
              go_roundw
              case rel => exact ⟨i + 1, by push_cast; rfl, by rw [HT.out, if_pos (by simp [cpred, B1.out, B2.out, B3.out])]; push_cast; rfl, HI.out, HF1.out.trans (Fr.drew _ _)⟩
              case measure => exact HMS.out
          · have B3 : Hid (¬ n < xt + w) := by show ¬ _ < _; omega
            have g3 : decide ((n : Int) - w < xt) = false := decide_eq_false b3
            go_region
            go_wp2
            go_roundw
            case rel => exact ⟨i + 1, by push_cast; rfl, by rw [HT.out, if_neg (by simp [cpred, B1.out, B2.out, B3.out]), Nat.add_zero], HI.out, HF1.out.trans (Fr.drew _ _)⟩
            case measure => exact HMS.out
        · have B2 : Hid (¬ xt < n) := by show ¬ _ < _; omega
          have g2 : decide ((xt : Int) < n) = false := decide_eq_false b2
          go_region
          go_wp2
          go_roundw
          case rel => exact ⟨i + 1, by push_cast; rfl, by rw [HT.out, if_neg (by simp [cpred, B1.out, B2.out]), Nat.add_zero], HI.out, HF1.out.trans (Fr.drew _ _)⟩
          case measure => exact HMS.out
      · have g1 : ((xp : Int) == k) = false := by simpa using b1
        have B1 : Hid (xp ≠ k) := by show _ ≠ _; omega
        clear b1
        go_region
        go_wp2
        go_roundw
        case rel => exact ⟨i + 1, by push_cast; rfl, by rw [HT.out, if_neg (by simp [cpred, B1.out]), Nat.add_zero], HI.out, HF1.out.trans (Fr.drew _ _)⟩
        case measure => exact HMS.out
    · have hlt : ¬ (i : Int) < L.length := by omega
      have HE : Hid (L.take i = L) := List.take_of_length_le (by omega)
      rw [HE.out]
      clear hi
      go_wp2
      go_ret
      exact ⟨rfl, HR.out.2⟩
set_option maxRecDepth 100000 in
set_option maxHeartbeats 1000000 in
theorem rbud_any {W : World} {lo G pb cp w p T : Nat} {v : Value} {P : List (Int × Int)} {L : List Ch} (h : RA lo G pb cp v w p P T L W) (x : Int) (h3 : 0 ≤ x ∧ x ≤ 100) : Calls Try.prog 60 #[.pointer (some ⟨G, 0, none⟩), .int .i64 x] W fun e w' => e = .returned (.int .i64 (budI w p x)) ∧ Fr (fun _ => False) W w' := by
  have h1 : 1 ≤ (w : Int) ∧ (w : Int) ≤ 1000 := by have := (cfg_ok h.ok).1; omega
  have h2 : 1 ≤ (p : Int) ∧ (p : Int) ≤ 8 := by have := (cfg_ok h.ok).2.1; omega
  have m1 : 0 ≤ x * w := Int.mul_nonneg h3.1 (by omega)
  have m2 : x * w ≤ 100000 := by
    calc x * w ≤ 100 * w := Int.mul_le_mul_of_nonneg_right h3.2 (by omega)
      _ ≤ 100 * 1000 := Int.mul_le_mul_of_nonneg_left h1.2 (by omega)
      _ = 100000 := by decide
  have m3 : 0 ≤ x * w * p := Int.mul_nonneg m1 (by omega)
  have m4 : x * w * p ≤ 800000 := by
    calc x * w * p ≤ 100000 * p := Int.mul_le_mul_of_nonneg_right m2 (by omega)
      _ ≤ 100000 * 8 := Int.mul_le_mul_of_nonneg_left h2.2 (by omega)
      _ = 800000 := by decide
  have HV : Hid (budI w p x = x * w * p / 100) := rfl
  generalize budI w p x = z at HV ⊢
  have c0 : W.cell? ⟨G, 0, none⟩ = some (.int .i64 (w : Int)) := h.row.cell 0
  have c1 : W.cell? ⟨G, 1, none⟩ = some (.int .i64 (p : Int)) := h.row.cell 1
  clear h h1 h2 h3
  go_enter Try.func60, Try.ntmps60
  go_wp2
  go_region
  go_wp2
  go_ret
  exact ⟨by rw [HV.out] <;> rfl, Fr.drew _ _⟩
end Go.Proofs.Ytbjpaemldnoinaa
