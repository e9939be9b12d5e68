/- The contracts of package ready's other calls that do not walk through a queue. -/
import Derived.Test.YtjaaljcdaamcjaaGreatYi
namespace Go.Proofs.YtjaaljcdaamcjaaGreat.Rd
open Go.RowKit
set_option linter.unusedVariables false

theorem del_same {ls : Nat → List Nat} {t p : Nat} (hi : ∀ i, t ∈ ls i → i = p) {i : Nat} (h : i ≠ p) : del ls t i = ls i := erase_no fun hx => h (hi i hx)
theorem QInv.only {q : QS} {ls : Nat → List Nat} (h : QInv q ls) {t p : Nat} (hm : t ∈ ls p) : ∀ i, t ∈ ls i → i = p := fun i hx => (h.r.mem i t hx).2.2.symm.trans (h.r.mem p t hm).2.2
theorem del_len {q : QS} {ls : Nat → List Nat} (h : QInv q ls) {t p : Nat} (hm : t ∈ ls p) : (order ls).length = (order (del ls t)).length + 1 := by
  have hp := (h.r.mem p t hm).2.1
  have := orderN_len (ls := del ls t) (ms := ls) (p := p) (k := 1) (by
    show _ = ((ls p).erase t).length + 1
    have := List.length_pos_of_mem hm
    rw [List.length_erase_of_mem hm]; omega) (fun i e => by rw [del_same (h.only hm) e]) 256
  rw [if_pos hp] at this
  exact this
theorem del_no {q : QS} {ls : Nat → List Nat} (h : QInv q ls) (t i : Nat) : t ∉ del ls t i := fun hx => by
  have := (h.r.nodup i).mem_erase_iff.1 hx
  exact this.1 rfl
theorem del_mem {q : QS} {ls : Nat → List Nat} (h : QInv q ls) {t x i : Nat} (hxt : x ≠ t) : x ∈ del ls t i ↔ x ∈ ls i := List.mem_erase_of_ne hxt
theorem QInv.drop {q q' : QS} {ls : Nat → List Nat} {t p : Nat} (h : QInv q ls) (hm : t ∈ ls p) (hr : RInv q' (del ls t)) (hk : q'.mask = upd q.mask t 0) (hc : q'.count + 1 = q.count) : QInv q' (del ls t) := by
  refine ⟨hr, fun x hx => ?_, fun x => ?_, ?_⟩
  · rw [hk]
    by_cases e : x = t
    · subst e; rw [upd_same]; exact ⟨fun h => absurd rfl h, fun ⟨i, hi⟩ => absurd hi (del_no h x i)⟩
    · rw [upd_other e, h.mask0 x hx]
      exact ⟨fun ⟨i, hi⟩ => ⟨i, (del_mem h e).2 hi⟩, fun ⟨i, hi⟩ => ⟨i, (del_mem h e).1 hi⟩⟩
  · rw [hk]
    by_cases e : x = t
    · subst e; rw [upd_same]; decide
    · rw [upd_other e]; exact h.maskl x
  · have := del_len h hm; have := h.count; omega
theorem QInv.move {q q' : QS} {ls : Nat → List Nat} {t p p' : Nat} {front : Bool} (h : QInv q ls) (hm : t ∈ ls p) (hp' : p' < 256) (hr : RInv q' (ins (del ls t) t p' front)) (hk : q'.mask = q.mask) (hc : q'.count = q.count) : QInv q' (ins (del ls t) t p' front) := by
  refine ⟨hr, fun x hx => ?_, fun x => by rw [hk]; exact h.maskl x, ?_⟩
  · rw [hk, h.mask0 x hx]
    by_cases e : x = t
    · subst e
      refine ⟨fun _ => ⟨p', ?_⟩, fun _ => ⟨p, hm⟩⟩
      rw [ins_same]; cases front <;> simp
    · constructor
      · rintro ⟨i, hi⟩
        refine ⟨i, ?_⟩
        have hi' := (del_mem h e).2 hi
        by_cases ei : i = p'
        · subst ei; rw [ins_same]; cases front <;> simp [hi']
        · rw [ins_other ei]; exact hi'
      · rintro ⟨i, hi⟩
        refine ⟨i, (del_mem h e).1 ?_⟩
        by_cases ei : i = p'
        · subst ei; rw [ins_same] at hi; cases front <;> simp [e] at hi <;> exact hi
        · rw [ins_other ei] at hi; exact hi
  · have h1 := del_len h hm
    have h2 := orderN_len (ls := del ls t) (ms := ins (del ls t) t p' front) (p := p') (k := 1) (by rw [ins_same]; cases front <;> simp) (fun i e => by rw [ins_other e]) 256
    rw [if_pos hp'] at h2
    have := h.count
    show q'.count = (orderN 256 _).length
    rw [h2, hc]
    exact this.trans h1

theorem QInv.small {q : QS} {ls : Nat → List Nat} (h : QInv q ls) : q.count ≤ 65536 := by
  have : ∀ n, (orderN n ls).length ≤ n * 256 := by
    intro n
    induction n with
    | zero => simp [orderN]
    | succ n ih =>
      have hle : (ls n).length ≤ 256 := nodup_len 256 _ (h.r.nodup n) fun x hx => (h.r.mem n x hx).1
      rw [orderN, List.length_append]; omega
  rw [h.count]
  exact this 256

set_option maxHeartbeats 1000000 in
theorem drop_any {W : World} {B : Nat} {ls : Nat → List Nat} {mk : Nat → Nat} (h : QP B ls mk W) (t : Nat) (ht : t < 256) (hx : mk t ≠ 0) :
    Calls Tryz.prog 185 #[.pointer (some ⟨B, 0, none⟩), .int .i64 t] W fun e w' => (∃ v, e = .returned v) ∧ W.grownBy w' (some B) ∧ QP B (del ls t) (upd mk t 0) w' := by
  obtain ⟨p, hp, hm⟩ := h.yes ht hx
  obtain ⟨q, h1, h2, rfl⟩ := h
  have HQ := Lib.hid h1
  have HI := Lib.hid h2
  have HM := Lib.hid hm
  obtain ⟨c, hc⟩ : ∃ c, q.count = c + 1 := ⟨q.count - 1, by have := del_len h2 hm; have := h2.count; omega⟩
  have HC := Lib.hid hc
  have hsm := h2.small
  have s0 : (0 : Int) ≤ c := by omega
  have s1 : (c : Int) ≤ 65536 := by omega
  have t0 : (0 : Int) ≤ t := by omega
  have t1 : (t : Int) < 256 := by omega
  clear h1 h2 hm hc hx hsm
  go_enter Tryz.func185, Tryz.ntmps185
  go_upto_region 1 with (go_at_call 198; refine (cut_any HQ.out HI.out.r t p HM.out).mono ?_; rintro e w1 ⟨⟨v, rfl⟩, g1, q1, h1, r1, m1, k1⟩)
  have H1 := Lib.hid h1
  have G1 := Lib.hid g1
  have R1 := Lib.hid r1
  have M1 := Lib.hid m1
  have K1 := Lib.hid (k1.trans HC.out)
  have c1 := h1.mask t ht
  have f1 := h1.frozen (1028 + t)
  clear g1 h1 r1 m1 k1
  go_upto_region 2 with (fail)
  have H2 : Hid (QAt (w1.setCell ⟨B, 1028 + t, none⟩ (.int .i64 0)) B { q1 with mask := upd q1.mask t 0 }) := H1.out.setMask t 0 ht
  have G2 := Lib.hid (grown_trans G1.out (grown_set w1 B (1028 + t) (.int .i64 0)))
  clear c1 f1
  generalize World.setCell w1 _ _ = w2 at H2 G2 ⊢
  have c2 : w2.cell? ⟨B, 1284, none⟩ = some (.int .i64 ((c : Int) + 1)) := by rw [H2.out.count]; show some (Value.int .i64 (q1.count : Int)) = _; rw [K1.out]; rfl
  have f2 := H2.out.frozen 1284
  go_wp2
  go_end0
  refine ⟨⟨_, rfl⟩, grown_trans G2.out (grown_set _ _ _ _), _, H2.out.setCount c, HI.out.drop HM.out ⟨R1.out.nodup, R1.out.mem, R1.out.bit, R1.out.flt, R1.out.head, R1.out.ring⟩ ?_ ?_, ?_⟩
  · show upd q1.mask t 0 = _; rw [M1.out]
  · exact HC.out.symm
  · show upd q1.mask t 0 = _; rw [M1.out]

/-! check, once more -/
def chkM (mk : Nat → Nat) (t : Int) (v : Bool) : Int := if isThr t = false ∨ v = false then 34 else if mk t.toNat = 0 then 22 else 0
theorem check_qp {W : World} {B : Nat} {ls : Nat → List Nat} {mk : Nat → Nat} (h : QP B ls mk W) (t : Int) (v : Bool) : Calls Tryz.prog 184 #[.pointer (some ⟨B, 0, none⟩), .int .i64 t, .bool v] W fun e w' => e = .returned (.int .i64 (chkM mk t v)) ∧ W = w' := by
  obtain ⟨q, h1, _, rfl⟩ := h
  exact check_any h1 t v

/-! Remove -/
theorem remove_nil (t : Int) (w : World) : Calls Tryz.prog 161 #[.pointer none, .int .i64 t] w fun e w' => e = .returned (.int .i64 35) ∧ w = w' := by
  go_enter Tryz.func161, Tryz.ntmps161
  go_wp2_with (go_at_call 184; refine (check_nil _ _ _).mono ?_; rintro e w' ⟨rfl, rfl⟩)
  go_ret
  exact ⟨rfl, rfl⟩
theorem remove_err {W : World} {B : Nat} {ls : Nat → List Nat} {mk : Nat → Nat} (h : QP B ls mk W) (t : Int) (c : Int) (hc : chkM mk t true = c) (h0 : c ≠ 0) : Calls Tryz.prog 161 #[.pointer (some ⟨B, 0, none⟩), .int .i64 t] W fun e w' => e = .returned (.int .i64 c) ∧ W = w' := by
  have HQ := Lib.hid h
  have HC := Lib.hid hc
  have hne : (c != 0) = true := by simp [h0]
  clear h hc h0
  go_enter Tryz.func161, Tryz.ntmps161
  go_wp2_with (go_at_call 184; refine (check_qp HQ.out _ _).mono ?_; rw [HC.out]; rintro e w' ⟨rfl, rfl⟩)
  go_ret
  exact ⟨rfl, rfl⟩
theorem remove_ok {W : World} {B : Nat} {ls : Nat → List Nat} {mk : Nat → Nat} (h : QP B ls mk W) (t : Nat) (ht : t < 256) (hx : mk t ≠ 0) :
    Calls Tryz.prog 161 #[.pointer (some ⟨B, 0, none⟩), .int .i64 t] W (QPE (.int .i64 0) B (del ls t) (upd mk t 0) W) := by
  have HQ := Lib.hid h
  have HX := Lib.hid hx
  have HC : Hid (chkM mk t true = 0) := by show _ = _; simp [chkM, (isThr_iff (t : Int)).2 ⟨by omega, by omega⟩, hx]
  clear h hx
  go_enter Tryz.func161, Tryz.ntmps161
  go_wp2_with (first
    | (go_at_call 184; refine (check_qp HQ.out _ _).mono ?_; rw [HC.out]; rintro e w' ⟨rfl, rfl⟩)
    | (go_at_call 185; refine (drop_any HQ.out t ht HX.out).mono ?_; rintro e w1 ⟨⟨v, rfl⟩, g1, h1⟩))
  go_ret
  exact ⟨rfl, by assumption, by assumption⟩
/-! SetMask -/
end Go.Proofs.YtjaaljcdaamcjaaGreat.Rd
