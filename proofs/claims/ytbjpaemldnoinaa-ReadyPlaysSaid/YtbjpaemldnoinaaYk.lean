/- The contracts of SetPriority, Rotate, Priority, Greatest, Len, New. -/
import Derived.Test.YtbjpaemldnoinaaYj
import Derived.Laws.Tables
namespace Go.Proofs.Ytbjpaemldnoinaa
open Go.RowKit
set_option linter.unusedVariables false

/-! SetPriority -/
theorem setprio_nil (t p : Int) (front : Bool) (w : World) : Calls Try.prog 38 #[.pointer none, .int .i64 t, .int .i64 p, .bool front] w fun e w' => e = .returned (.int .i64 35) ∧ w = w' := by
  go_enter Try.func38, Try.ntmps38
  go_wp2_with (first
    | (go_at_call 67; refine (ispriority_any _ _).mono ?_; rintro e w' ⟨rfl, rfl⟩)
    | (go_at_call 78; refine (check_nil _ _ _).mono ?_; rintro e w' ⟨rfl, rfl⟩))
  go_ret
  exact ⟨rfl, rfl⟩
theorem setprio_err {W : World} {B : Nat} {ls : Nat → List Nat} {mk : Nat → Nat} (h : QP B ls mk W) (t p : Int) (front : Bool) (c : Int) (hc : chkM mk t (isThr p) = c) (h0 : c ≠ 0) : Calls Try.prog 38 #[.pointer (some ⟨B, 0, none⟩), .int .i64 t, .int .i64 p, .bool front] W fun e w' => e = .returned (.int .i64 c) ∧ W = w' := by
  have HQ := Lib.hid h
  have HC := Lib.hid hc
  have hne : (c != 0) = true := by simp [h0]
  clear h hc h0
  go_enter Try.func38, Try.ntmps38
  go_wp2_with (first
    | (go_at_call 67; refine (ispriority_any _ _).mono ?_; rintro e w' ⟨rfl, rfl⟩)
    | (go_at_call 78; refine (check_qp HQ.out _ _).mono ?_; rw [HC.out]; rintro e w' ⟨rfl, rfl⟩))
  go_ret
  exact ⟨rfl, rfl⟩
theorem chk_zero {mk : Nat → Nat} {t : Nat} (ht : t < 256) (hx : mk t ≠ 0) : chkM mk t true = 0 := by simp [chkM, (isThr_iff (t : Int)).2 ⟨by omega, by omega⟩, hx]
theorem setprio_same {W : World} {B : Nat} {ls : Nat → List Nat} {mk : Nat → Nat} (h : QP B ls mk W) (t p : Nat) (front : Bool) (ht : t < 256) (hp : p < 256) (hx : mk t ≠ 0) (hm : t ∈ ls p) :
    Calls Try.prog 38 #[.pointer (some ⟨B, 0, none⟩), .int .i64 t, .int .i64 p, .bool front] W fun e w' => e = .returned (.int .i64 0) ∧ W = w' := by
  have HP : Hid (isThr p = true) := (isThr_iff _).2 (by omega)
  have HC := Lib.hid (chk_zero ht hx)
  have HQ := Lib.hid h
  obtain ⟨q, h1, h2, rfl⟩ := h
  have c1 : W.cell? ⟨B, 772 + t, none⟩ = some (.int .i64 p) := by rw [h1.prio t ht, (h2.r.mem p t hm).2.2]
  have t0 : (0 : Int) ≤ t := by omega
  have t1 : (t : Int) < 256 := by omega
  have pp : ((p : Int) != p) = false := by simp
  clear h1 h2 hx hm
  go_enter Try.func38, Try.ntmps38
  go_wp2_with (first
    | (go_at_call 67; refine (ispriority_any _ _).mono ?_; rw [HP.out]; rintro e w' ⟨rfl, rfl⟩)
    | (go_at_call 78; refine (check_qp HQ.out _ _).mono ?_; rw [HC.out]; rintro e w' ⟨rfl, rfl⟩))
  go_ret
  exact ⟨rfl, rfl⟩
set_option maxHeartbeats 1000000 in
theorem setprio_ok {W : World} {B : Nat} {ls : Nat → List Nat} {mk : Nat → Nat} (h : QP B ls mk W) (t p p0 : Nat) (front : Bool) (ht : t < 256) (hp : p < 256) (hx : mk t ≠ 0) (hm : t ∈ ls p0) (hne : p ≠ p0) :
    Calls Try.prog 38 #[.pointer (some ⟨B, 0, none⟩), .int .i64 t, .int .i64 p, .bool front] W (QPE (.int .i64 0) B (ins (del ls t) t p front) mk W) := by
  have HP : Hid (isThr p = true) := (isThr_iff _).2 (by omega)
  have HC := Lib.hid (chk_zero ht hx)
  have HQ := Lib.hid h
  obtain ⟨q, h1, h2, rfl⟩ := h
  have c1 : W.cell? ⟨B, 772 + t, none⟩ = some (.int .i64 p0) := by rw [h1.prio t ht, (h2.r.mem p0 t hm).2.2]
  have t0 : (0 : Int) ≤ t := by omega
  have t1 : (t : Int) < 256 := by omega
  have pp : ((p : Int) != p0) = true := by simp; omega
  have H1 := Lib.hid h1
  have HI := Lib.hid h2
  have HM := Lib.hid hm
  have HND := Lib.hid (del_no h2 t)
  clear h1 h2 hx hm hne
  go_enter Try.func38, Try.ntmps38
  go_upto_region 6 with (first
    | (go_at_call 67; refine (ispriority_any _ _).mono ?_; rw [HP.out]; rintro e w' ⟨rfl, rfl⟩)
    | (go_at_call 78; refine (check_qp HQ.out _ _).mono ?_; rw [HC.out]; rintro e w' ⟨rfl, rfl⟩)
    | (go_at_call 82; refine (cut_any H1.out HI.out.r t p0 HM.out).mono ?_; rintro e w1 ⟨⟨v, rfl⟩, g1, q1, h1, r1, m1, k1⟩))
  have H2 := Lib.hid h1
  have G2 := Lib.hid g1
  have R2 := Lib.hid r1
  have M2 := Lib.hid m1
  have K2 := Lib.hid k1
  clear g1 h1 r1 m1 k1
  go_wp2_with (go_at_call 70; refine (put_any H2.out R2.out t p ht hp HND.out front).mono ?_; rintro e w2 ⟨⟨v, rfl⟩, g2, q2, h2, r2, m2, k2⟩)
  go_ret
  exact ⟨rfl, grown_trans G2.out g2, q2, h2, HI.out.move HM.out hp r2 (m2.trans M2.out) (k2.trans K2.out), m2.trans M2.out⟩

/-! Rotate -/
theorem rotate_nil (p : Int) (w : World) : Calls Try.prog 34 #[.pointer none, .int .i64 p] w fun e w' => e = .returned (.int .i64 35) ∧ w = w' := by
  go_enter Try.func34, Try.ntmps34
  go_wp2
  go_ret
  exact ⟨rfl, rfl⟩
theorem rotate_bad {W : World} {B : Nat} (p : Int) (hb : isThr p = false) : Calls Try.prog 34 #[.pointer (some ⟨B, 0, none⟩), .int .i64 p] W fun e w' => e = .returned (.int .i64 34) ∧ W = w' := by
  have HP := Lib.hid hb
  clear hb
  go_enter Try.func34, Try.ntmps34
  go_wp2_with (go_at_call 67; refine (ispriority_any _ _).mono ?_; rw [HP.out]; rintro e w' ⟨rfl, rfl⟩)
  go_ret
  exact ⟨rfl, rfl⟩
theorem rotate_none {W : World} {B : Nat} {ls : Nat → List Nat} {mk : Nat → Nat} (h : QP B ls mk W) (p : Nat) (hp : p < 256) (he : ls p = []) : Calls Try.prog 34 #[.pointer (some ⟨B, 0, none⟩), .int .i64 p] W fun e w' => e = .returned (.int .i64 22) ∧ W = w' := by
  have HP : Hid (isThr p = true) := (isThr_iff _).2 (by omega)
  obtain ⟨q, h1, h2, rfl⟩ := h
  have HQ := Lib.hid h1
  have HB : Hid ((q.filled (p / 64)).testBit (p % 64) = false) := by show _ = _; rw [h2.r.bit p hp, he]; rfl
  have HF := Lib.hid h2.r.flt
  clear h1 h2 he
  go_enter Try.func34, Try.ntmps34
  go_wp2_with (first
    | (go_at_call 67; refine (ispriority_any _ _).mono ?_; rw [HP.out]; rintro e w' ⟨rfl, rfl⟩)
    | (go_at_call 72; refine (has_any HQ.out p hp (HF.out _)).mono ?_; rw [HB.out]; rintro e w' ⟨rfl, rfl⟩))
  go_ret
  exact ⟨rfl, rfl⟩
theorem QInv.rot {q : QS} {ls : Nat → List Nat} (h : QInv q ls) {p : Nat} (he : ls p ≠ []) : QInv (rotQ q p) (rotL ls p) := by
  have hmem : ∀ i x, x ∈ rotL ls p i ↔ x ∈ ls i := fun i x => by
    by_cases e : i = p
    · subst e
      cases hl : ls i with
      | nil => simp [rotL, hl]
      | cons a r => simp [rotL, hl, or_comm]
    · simp [rotL, e]
  refine ⟨h.r.rot he, fun x hx => ?_, h.maskl, ?_⟩
  · rw [show (rotQ q p).mask x = q.mask x from rfl, h.mask0 x hx]
    exact ⟨fun ⟨i, hi⟩ => ⟨i, (hmem i x).2 hi⟩, fun ⟨i, hi⟩ => ⟨i, (hmem i x).1 hi⟩⟩
  · have := orderN_len (ls := ls) (ms := rotL ls p) (p := p) (k := 0) (by cases hl : ls p with | nil => simp [rotL, hl] | cons a r => simp [rotL, hl]) (fun i e => by simp [rotL, e]) 256
    have h2 := h.count
    show q.count = (orderN 256 _).length
    rw [this, h2]; simp [order]
set_option maxHeartbeats 1000000 in
theorem rotate_ok {W : World} {B : Nat} {ls : Nat → List Nat} {mk : Nat → Nat} (h : QP B ls mk W) (p : Nat) (hp : p < 256) (he : ls p ≠ []) : Calls Try.prog 34 #[.pointer (some ⟨B, 0, none⟩), .int .i64 p] W (QPE (.int .i64 0) B (rotL ls p) mk W) := by
  have HP : Hid (isThr p = true) := (isThr_iff _).2 (by omega)
  obtain ⟨q, h1, h2, rfl⟩ := h
  have HQ := Lib.hid h1
  have HB : Hid ((q.filled (p / 64)).testBit (p % 64) = true) := by show _ = _; rw [h2.r.bit p hp]; simpa using he
  have HF := Lib.hid h2.r.flt
  obtain ⟨hd, r, hr⟩ : ∃ a r, ls p = a :: r := by
    cases hl : ls p with
    | nil => exact absurd hl he
    | cons a r => exact ⟨a, r, rfl⟩
  have hhd := h2.r.head p hd r hr
  have hdl : hd < 256 := (h2.r.mem p hd (by rw [hr]; simp)).1
  obtain ⟨z, hz⟩ : ∃ z, q.after hd = z := ⟨_, rfl⟩
  have c1 : W.cell? ⟨B, 516 + p, none⟩ = some (.int .i64 hd) := by rw [h1.heads p hp, hhd]
  have c2 : W.cell? ⟨B, hd, none⟩ = some (.int .i64 z) := by rw [h1.after hd hdl, hz]
  have f1 := h1.frozen (516 + p)
  have HI : Hid (QInv { q with heads := upd q.heads p z } (rotL ls p)) := by
    have := h2.rot he
    unfold rotQ at this
    rw [hhd, hz] at this
    exact this
  have H1 := Lib.hid (h1.setHeads p z hp)
  have p0 : (0 : Int) ≤ p := by omega
  have p1 : (p : Int) < 256 := by omega
  have d0 : (0 : Int) ≤ hd := by omega
  have d1 : (hd : Int) < 256 := by omega
  clear h1 h2 he hr hhd hz
  go_enter Try.func34, Try.ntmps34
  go_wp2_with (first
    | (go_at_call 67; refine (ispriority_any _ _).mono ?_; rw [HP.out]; rintro e w' ⟨rfl, rfl⟩)
    | (go_at_call 72; refine (has_any HQ.out p hp (HF.out _)).mono ?_; rw [HB.out]; rintro e w' ⟨rfl, rfl⟩))
  go_region
  go_wp2
  go_ret
  exact ⟨rfl, grown_trans (grown_set _ _ _ _) (grown_drew _ _), _, H1.out, HI.out, rfl⟩

/-! Priority -/
theorem prio_nil (t : Int) (w : World) : Calls Try.prog 46 #[.pointer none, .int .i64 t] w fun e w' => e = .returned (.tuple #[.int .i64 0, .int .i64 35]) ∧ w = w' := by
  go_enter Try.func46, Try.ntmps46
  go_wp2_with (go_at_call 78; refine (check_nil _ _ _).mono ?_; rintro e w' ⟨rfl, rfl⟩)
  go_ret2
  exact ⟨rfl, rfl⟩
theorem prio_err {W : World} {B : Nat} {ls : Nat → List Nat} {mk : Nat → Nat} (h : QP B ls mk W) (t : Int) (c : Int) (hc : chkM mk t true = c) (h0 : c ≠ 0) : Calls Try.prog 46 #[.pointer (some ⟨B, 0, none⟩), .int .i64 t] W fun e w' => e = .returned (.tuple #[.int .i64 0, .int .i64 c]) ∧ W = w' := by
  have HQ := Lib.hid h
  have HC := Lib.hid hc
  have hne : (c != 0) = true := by simp [h0]
  clear h hc h0
  go_enter Try.func46, Try.ntmps46
  go_wp2_with (go_at_call 78; refine (check_qp HQ.out _ _).mono ?_; rw [HC.out]; rintro e w' ⟨rfl, rfl⟩)
  go_ret2
  exact ⟨rfl, rfl⟩
theorem prio_ok {W : World} {B : Nat} {ls : Nat → List Nat} {mk : Nat → Nat} (h : QP B ls mk W) (t p : Nat) (ht : t < 256) (hx : mk t ≠ 0) (hm : t ∈ ls p) : Calls Try.prog 46 #[.pointer (some ⟨B, 0, none⟩), .int .i64 t] W fun e w' => e = .returned (.tuple #[.int .i64 p, .int .i64 0]) ∧ W = w' := by
  have HC := Lib.hid (chk_zero ht hx)
  have HQ := Lib.hid h
  obtain ⟨q, h1, h2, rfl⟩ := h
  have c1 : W.cell? ⟨B, 772 + t, none⟩ = some (.int .i64 p) := by rw [h1.prio t ht, (h2.r.mem p t hm).2.2]
  have t0 : (0 : Int) ≤ t := by omega
  have t1 : (t : Int) < 256 := by omega
  clear h1 h2 hx hm
  go_enter Try.func46, Try.ntmps46
  go_wp2_with (go_at_call 78; refine (check_qp HQ.out _ _).mono ?_; rw [HC.out]; rintro e w' ⟨rfl, rfl⟩)
  go_ret2
  exact ⟨rfl, rfl⟩

/-! Greatest, Len -/
/-- The greatest priority below n whose list is not empty, or -1. -/
def topN : Nat → (Nat → List Nat) → Int
  | 0, _ => -1
  | n + 1, ls => if ls n = [] then topN n ls else n
theorem top_below {q : QS} {ls : Nat → List Nat} (h : RInv q ls) : ∀ n, n ≤ 256 → belowV q.filled n = topN n ls
  | 0, _ => rfl
  | n + 1, hn => by
    rw [belowV, topN, h.bit n (by omega), top_below h n (by omega)]
    by_cases e : ls n = []
    · simp [e]
    · simp [e]
theorem greatest_nil (w : World) : Calls Try.prog 16 #[.pointer none] w fun e w' => e = .returned (.int .i64 (-1)) ∧ w = w' := by
  go_enter Try.func16, Try.ntmps16
  go_wp2
  go_ret
  exact ⟨rfl, rfl⟩
theorem greatest_any {W : World} {B : Nat} {ls : Nat → List Nat} {mk : Nat → Nat} (h : QP B ls mk W) : Calls Try.prog 16 #[.pointer (some ⟨B, 0, none⟩)] W fun e w' => e = .returned (.int .i64 (topN 256 ls)) ∧ W.grownBy w' none := by
  obtain ⟨q, h1, h2, rfl⟩ := h
  have HB := Lib.hid (below_any h1 (fun j _ => h2.r.flt j) 256 (Nat.le_refl _))
  have HT := Lib.hid (top_below h2.r 256 (Nat.le_refl _))
  clear h1 h2
  go_enter Try.func16, Try.ntmps16
  go_wp2_with (go_at_call 49; refine HB.out.mono ?_; rintro e w1 ⟨rfl, g1⟩)
  go_ret
  exact ⟨by rw [← HT.out]; rfl, by assumption⟩
theorem len_nil (w : World) : Calls Try.prog 15 #[.pointer none] w fun e w' => e = .returned (.int .i64 0) ∧ w = w' := by
  go_enter Try.func15, Try.ntmps15
  go_wp2
  go_ret
  exact ⟨rfl, rfl⟩
theorem len_any {W : World} {B : Nat} {ls : Nat → List Nat} {mk : Nat → Nat} (h : QP B ls mk W) : Calls Try.prog 15 #[.pointer (some ⟨B, 0, none⟩)] W fun e w' => e = .returned (.int .i64 ((order ls).length : Int)) ∧ W = w' := by
  obtain ⟨q, h1, h2, rfl⟩ := h
  have c1 : W.cell? ⟨B, 1284, none⟩ = some (.int .i64 ((order ls).length : Int)) := by rw [h1.count, h2.count]
  clear h1 h2
  generalize (order ls).length = n at c1 ⊢
  go_enter Try.func15, Try.ntmps15
  go_wp2
  go_ret
  exact ⟨rfl, rfl⟩

/-! New -/
def q0 : QS := ⟨fun _ => 0, fun _ => 0, fun _ => 0, fun _ => 0, fun _ => 0, fun _ => 0, 0⟩
def noL : Nat → List Nat := fun _ => []
theorem order_no : ∀ n, orderN n noL = []
  | 0 => rfl
  | n + 1 => by rw [orderN, order_no n]; rfl
theorem q0_inv : QInv q0 noL :=
  ⟨⟨fun _ => List.nodup_nil, fun _ _ h => by simp [noL] at h, fun p _ => by simp [q0, noL], fun _ => by show 0 < 2 ^ 64; decide, fun _ _ _ h => by simp [noL] at h, fun _ => trivial⟩, fun _ _ => by simp [q0, noL], fun _ => by show 0 < 256; decide, by rw [order, order_no]; rfl⟩
theorem wpList_build_at {P : Program} {ops : Array Oper} {rest : List Oper} {o : Oper} {a : Act} {w : World} {Q : Exit → Act → World → Prop} (hgd : o.guard = none) (t : TypeId) (parts : Array (Nat × Operand)) (ho : o.op = .build t parts) (cells : Array Value)
    (hf : P.built t (parts.map fun (i, x) => (i, a.eval x)).toList = some cells) (h : wpList P ops Q rest (a.put o.dst (.agg cells)) w) : wpList P ops Q (o :: rest) a w :=
  wpList_plain hgd fun _ hK => wp_build t parts ho (by rw [hf]; rfl) (by rw [hf]; exact hK _ _ h)
theorem built_q0 : Try.prog.built 82 [] = some (qA q0) := by kernel_rfl
theorem new_any (w : World) : Calls Try.prog 10 #[] w fun e w' => e = .returned (.pointer (some ⟨w.heap.size, 0, none⟩)) ∧ w.grownBy w' none ∧ QP w.heap.size noL (fun _ => 0) w' := by
  have HB := Lib.hid built_q0
  generalize hA : qA q0 = A at HB
  have HA := Lib.hid hA
  clear hA
  go_enter Try.func10, Try.ntmps10
  go_upto_region 1 with (fail)
  refine wp_region_lit ?_
  refine wpList_build_at rfl 82 #[] rfl A (by simpa using HB.out) ?_
  go_wp2
  go_ret
  refine ⟨rfl, grown_alloc _ _ _, q0, ?_, q0_inv, rfl⟩
  show RowAt _ _ _ (qA q0)
  rw [HA.out]
  exact RowAt.new w _ A
end Go.Proofs.Ytbjpaemldnoinaa
