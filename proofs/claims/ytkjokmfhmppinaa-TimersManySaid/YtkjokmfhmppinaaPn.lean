/- Timers: TimersMany: plain, and its walk. -/
import Derived.Test.YtkjokmfhmppinaaPl
import Derived.Test.YtkjokmfhmppinaaPm
namespace Go.Proofs.Ytkjokmfhmppinaa
open Go.RowKit Go.Maps
set_option linter.unusedVariables false

/-- n timers of the same kind. -/
def mL (u : Tm) (n : Nat) : TS := (List.range n).map fun (j : Nat) => ((j : Int), u)
theorem mL_len (u : Tm) (n : Nat) : (mL u n).length = n := by simp [mL]
theorem mL_mem {u : Tm} {n : Nat} {p : Int × Tm} (h : p ∈ mL u n) : ∃ j : Nat, j < n ∧ p = ((j : Int), u) := by
  obtain ⟨j, hj, rfl⟩ := List.mem_map.1 h
  exact ⟨j, List.mem_range.1 hj, rfl⟩
theorem mL_lt {u : Tm} {n : Nat} : ∀ p ∈ mL u n, p.1 < (n : Int) := fun p hp => by
  obtain ⟨j, hj, rfl⟩ := mL_mem hp
  show (j : Int) < n
  omega
theorem mL_succ (u : Tm) (n : Nat) : ins (n : Int) u (mL u n) = mL u (n + 1) := by
  rw [ins_last mL_lt]
  simp [mL, List.range_succ]
theorem mL_lf (u : Tm) (n : Nat) : lf (mL u n) = n := by
  have := lfFrom_seq (fun _ => u) n 0
  rw [Nat.zero_add] at this
  rw [lf, mL, List.range_eq_range']
  exact this
theorem mL_get {u : Tm} {n j : Nat} (hs : SortedT (mL u n)) (hj : j < n) : get (mL u n) j = some u :=
  get_of_mem hs (List.mem_map.2 ⟨j, List.mem_range.2 hj, rfl⟩)
theorem len_del : ∀ {l : TS}, SortedT l → ∀ {x : Int} {t : Tm}, get l x = some t → (del x l).length + 1 = l.length
  | [], _, _, _, h => by cases h
  | p :: r, hs, x, t, h => by
    obtain ⟨h1, h2⟩ := List.pairwise_cons.1 hs
    by_cases e : p.1 = x
    · have e2 : (p.1 == x) = true := by simpa using e
      have hr : del x r = r := List.filter_eq_self.2 fun q hq => by
        have := h1 q hq
        have e3 : (q.1 == x) = false := beq_eq_false_iff_ne.2 (by omega)
        simp only [e3, Bool.not_false]
      show (List.filter _ (p :: r)).length + 1 = _
      rw [List.filter_cons, if_neg (by simp only [e2, Bool.not_true]; decide)]
      show (del x r).length + 1 = _
      rw [hr]; rfl
    · have e2 : (p.1 == x) = false := beq_eq_false_iff_ne.2 e
      rw [get_cons, if_neg e] at h
      show (List.filter _ (p :: r)).length + 1 = _
      rw [List.filter_cons, if_pos (by simp only [e2, Bool.not_false])]
      show (del x r).length + 1 + 1 = _
      rw [len_del h2 h]; rfl
theorem filter_ins {x : Int} {t : Tm} {q : Int × Tm → Bool} (hq : q (x, t) = false) : ∀ {l : TS}, get l x = none → (ins x t l).filter q = l.filter q
  | [], _ => by show List.filter q [(x, t)] = _; rw [List.filter_cons, if_neg (by rw [hq]; decide)]
  | p :: r, h => by
    rw [get_cons] at h
    by_cases e : p.1 = x
    · rw [if_pos e] at h; cases h
    · rw [if_neg e] at h
      unfold ins
      by_cases hlt : x < p.1
      · rw [if_pos hlt, List.filter_cons, if_neg (by rw [hq]; decide)]
      · rw [if_neg hlt, if_neg (fun e2 => e e2.symm), List.filter_cons, List.filter_cons, filter_ins hq h]
/-- The number that is free again is used again. -/
theorem del_lf {W : World} {B b : Nat} {u : Tm} {k : Nat} {c : Int} (hs : SortedT (mL u 1000)) (h : TQ W B b (del (k : Int) (mL u 1000)) c) (hk : k < 1000) : lf (del (k : Int) (mL u 1000)) = k := by
  obtain ⟨h1, h2, h3⟩ := lf_ok h
  rcases Nat.lt_trichotomy (lf (del (k : Int) (mL u 1000))) k with hl | hl | hl
  · rw [get_del, if_neg (by omega), mL_get hs (by omega)] at h2
    cases h2
  · exact hl
  · have := h1 k hl
    rw [get_del, if_pos rfl] at this
    cases this
theorem drop_one {u0 u1 : Tm} (h0 : u0.o = 0) (h1 : u1.o = 1) {k : Nat} (hs : SortedT (mL u0 1000)) (hk : k < 1000) : dropO 1 (ins (k : Int) u1 (del (k : Int) (mL u0 1000))) = del (k : Int) (mL u0 1000) := by
  unfold dropO
  rw [filter_ins (by simp [h1]) (by rw [get_del, if_pos rfl])]
  exact List.filter_eq_self.2 fun p hp => by
    obtain ⟨j, _, rfl⟩ := mL_mem (List.mem_filter.1 hp).1
    simp [h0]
theorem drop_rest {u0 : Tm} (h0 : u0.o = 0) {k : Nat} : dropO 0 (del (k : Int) (mL u0 1000)) = [] := by
  unfold dropO
  exact List.filter_eq_nil_iff.2 fun p hp => by
    obtain ⟨j, _, rfl⟩ := mL_mem (List.mem_filter.1 hp).1
    simp [h0]
theorem ck_one {k c p d : Int} (h : ckN 0 k c p d = 0) : ckN 1 k c p d = 0 := by
  unfold ckN at h ⊢
  rw [if_neg (by decide), if_neg (by decide)] at h
  rw [if_neg (by decide), if_neg (by decide)]
  exact h
set_option maxRecDepth 100000 in
set_option maxHeartbeats 8000000 in
theorem many_walk (m : Nat) (hm : m < 65536) (k c p d v : Int) (W : World) : Calls Try.prog 4 #[.int .u16 (m : Int), .agg #[.int .i64 k, .int .i64 c, .int .i64 p, .int .i64 d, .int .i64 v]] W fun e w' => e = .returned (.bool true) ∧ Fr No W w' := by
  have HN := Lib.hid tnew_ok
  go_enter Try.func4, Try.ntmps4
  go_upto_region 1 with (fail)
  have F1 : Hid (Fr No W (W.alloc (.cells #[.int .i64 k, .int .i64 c, .int .i64 p, .int .i64 d, .int .i64 v] 29))) := Fr.alloc _ _ _
  have HX1 := Lib.hid (RowAt.new W 29 #[.int .i64 k, .int .i64 c, .int .i64 p, .int .i64 d, .int .i64 v])
  generalize W.alloc _ = w1 at F1 HX1 ⊢
  generalize W.heap.size = X at HX1 ⊢
  have HEV : Hid (∀ w, Fr No w1 w → w.rangeAt X 0 [.int .i64 k, .int .i64 c, .int .i64 p, .int .i64 d, .int .i64 v]) := fun w f => (HX1.out.fr f id).range
  go_upto_region 2 with (go_at_call 10; refine (HN.out w1).mono ?_; rintro e w2 ⟨rfl, q2, f2⟩; have HQ2 := Lib.hid q2; have F2 := Lib.hid f2; clear q2 f2)
  have HBB : Hid (∀ B b, w1.heap.size + 1 = B → w1.heap.size = b → w1.heap.size ≤ B ∧ w1.heap.size ≤ b) := fun B b h1 h2 => by omega
  generalize hB : w1.heap.size + 1 = B at HQ2 ⊢
  generalize hb : w1.heap.size = b at HQ2
  replace HBB := Lib.hid (HBB.out B b hB hb)
  clear hB hb
  by_cases hz : ckN 0 k c p d = 0
  rotate_left
  · have HC := Lib.hid (create_err HQ2.out 0 k c p d v rfl hz)
    have hz1 : (ckN 0 k c p d != 0) = true := by simpa using hz
    have HL := Lib.hid (fun w f => list_none (HQ2.out.no (W' := w) f))
    unfold evV at HC
    clear hz
    generalize ckN 0 k c p d = z at HC hz1
    go_wp2_with (first
      | ((with_reducible refine ld_gate ?_); refine wpList_load_mid rfl 29 (Operand.tmp 3) rfl X 0 rfl [_, _, _, _, _] _ (HEV.out _ F2.out) Try.underlying29 rfl size_event ?_; go_frame)
      | (go_at_call 18; refine HC.out.mono ?_; rintro e w3 ⟨rfl, f3⟩; have F3 := Lib.hid f3; clear f3)
      | (go_at_call 16; refine (HL.out _ F3.out).mono ?_; rintro e w4 ⟨rfl, f4⟩; have F4 := Lib.hid f4; clear f4)
      | (go_at_call 9; refine (awake_any _).mono ?_; rintro e w5 ⟨rfl, f5⟩; have F5 : Hid (Fr No W w5) := F1.out.trans (F2.out.trans (F3.out.trans (F4.out.trans f5))); clear f5))
    go_ret
    exact ⟨rfl, F5.out⟩
  have HZ := Lib.hid hz
  clear hz
  have HFR : Hid (∀ w w', Fr No w1 w → Fr (fun k => k = b) w w' → Fr No w1 w') := fun w w' f g => f.over g (fun k e => .inr (by rw [e]; exact HBB.out.2))
  have HCR : Hid (∀ w n, n < 1000 → TQ w B b (mL ⟨0, k, c, p, d, v, 0, 0, 0⟩ n) 0 → Calls Try.prog 18 #[.pointer (some ⟨B, 0, none⟩), .int .i64 0, .agg #[.int .i64 k, .int .i64 c, .int .i64 p, .int .i64 d, .int .i64 v]] w fun e w' => e = .returned (.tuple #[.int .i64 (n : Nat), .int .i64 0]) ∧ TQ w' B b (mL ⟨0, k, c, p, d, v, 0, 0, 0⟩ (n + 1)) 0 ∧ Fr (fun k => k = b) w w') := fun w n hn q => by
    have := create_ok q 0 k c p d v HZ.out (by rw [mL_len]; exact hn)
    rw [mL_lf, mL_succ] at this
    exact this
  have HC0 := Lib.hid (HCR.out w2 0 (by decide) HQ2.out)
  go_upto_region 5 with (first
      | ((with_reducible refine ld_gate ?_); refine wpList_load_mid rfl 29 (Operand.tmp 3) rfl X 0 rfl [_, _, _, _, _] _ (HEV.out _ F2.out) Try.underlying29 rfl size_event ?_; go_frame)
      | (go_at_call 18; refine HC0.out.mono ?_; rintro e w3 ⟨rfl, q3, f3⟩; have F3 : Hid (Fr No w1 w3) := HFR.out _ _ F2.out f3; have HQ3 := Lib.hid q3; clear q3 f3))
  clear HC0
  go_wp2
  go_loopw [8] (fun vi wr => ∃ i : Nat, vi = .int .i64 i ∧ Hid (1 ≤ i ∧ i ≤ 1000 ∧ TQ wr B b (mL ⟨0, k, c, p, d, v, 0, 0, 0⟩ i) 0 ∧ Fr No w1 wr)) (fun vi _ => 1000 - (intOf vi).toNat)
  case atStart => exact ⟨1, rfl, Nat.le_refl _, by omega, HQ3.out, F3.out⟩
  case round =>
    obtain ⟨i, rfl, HI⟩ := hrel
    have i0 : (0 : Int) ≤ i := by omega
    by_cases hi : i < 1000
    · have i1 : (i : Int) < 1000 := by omega
      have HMS : Hid (1000 - (intOf (Value.int IntKind.i64 ((i : Int) + 1))).toNat < 1000 - (intOf (Value.int IntKind.i64 (i : Int))).toNat) := by
        show _ < _
        simp only [intOf]
        omega
      have HI3 : Hid (1 ≤ i + 1 ∧ i + 1 ≤ 1000) := by show _ ∧ _; omega
      have HC := Lib.hid (HCR.out wr i hi HI.out.2.2.1)
      clear hi
      go_wp2_with (first
        | ((with_reducible refine ld_gate ?_); refine wpList_load_mid rfl 29 (Operand.tmp 3) rfl X 0 rfl [_, _, _, _, _] _ (HEV.out _ HI.out.2.2.2) Try.underlying29 rfl size_event ?_; go_frame)
        | (go_at_call 18; refine HC.out.mono ?_; rintro e w4 ⟨rfl, q4, f4⟩; have F4 : Hid (Fr No w1 w4) := HFR.out _ _ HI.out.2.2.2 f4; have HQ4 := Lib.hid q4; clear q4 f4))
      exact ⟨⟨i + 1, by push_cast; rfl, HI3.out.1, HI3.out.2, HQ4.out, F4.out⟩, HMS.out⟩
    · have he : i = 1000 := by have := HI.out.2.1; omega
      subst he
      clear hi
      obtain ⟨g, hg⟩ : ∃ g, m % 1000 = g := ⟨_, rfl⟩
      have hg1 : g < 1000 := by omega
      have HG : Hid ((m : Int) % 1000 = (g : Int)) := by
        show _ = _
        omega
      have m0 : (0 : Int) ≤ m := by omega
      have m1 : (m : Int) < 65536 := by omega
      have HC := Lib.hid ((create_full HI.out.2.2.1 0 k c p d v HZ.out (mL_len _ _)))
      unfold evV at HC
      go_upto_region 14 with (first
        | ((with_reducible refine ld_gate ?_); refine wpList_load_mid rfl 29 (Operand.tmp 3) rfl X 0 rfl [_, _, _, _, _] _ (HEV.out _ HI.out.2.2.2) Try.underlying29 rfl size_event ?_; go_frame)
        | (go_at_call 18; refine HC.out.mono ?_; rintro e w4 ⟨rfl, f4⟩; have HQ4 := Lib.hid (HI.out.2.2.1.no f4); have F4 : Hid (Fr No w1 w4) := HI.out.2.2.2.trans f4; clear f4))
      go_upto_region 15 with (fail)
      rw [HG.out]
      have hsr := HQ4.out.sorted
      have hgt := mL_get (j := g) hsr hg1
      have hln := len_del hsr hgt
      rw [mL_len] at hln
      have hwg : isW (g : Int) := isW_nat (by omega)
      have HDL := Lib.hid (delete_ok HQ4.out hwg hgt)
      have HC1 : Hid (∀ w, TQ w B b (del (g : Int) (mL ⟨0, k, c, p, d, v, 0, 0, 0⟩ 1000)) 0 → Calls Try.prog 18 #[.pointer (some ⟨B, 0, none⟩), .int .i64 1, .agg #[.int .i64 k, .int .i64 c, .int .i64 p, .int .i64 d, .int .i64 v]] w fun e w' => e = .returned (.tuple #[.int .i64 (g : Nat), .int .i64 0]) ∧ TQ w' B b (ins (g : Int) ⟨1, k, c, p, d, v, 0, 0, 0⟩ (del (g : Int) (mL ⟨0, k, c, p, d, v, 0, 0, 0⟩ 1000))) 0 ∧ Fr (fun k => k = b) w w') := fun w q => by
        have := create_ok q 1 k c p d v (ck_one HZ.out) (by omega)
        rw [del_lf hsr q hg1] at this
        exact this
      have HD1 : Hid (∀ w, TQ w B b (ins (g : Int) ⟨1, k, c, p, d, v, 0, 0, 0⟩ (del (g : Int) (mL ⟨0, k, c, p, d, v, 0, 0, 0⟩ 1000))) 0 → Calls Try.prog 20 #[.pointer (some ⟨B, 0, none⟩), .int .i64 1] w fun e w' => e = .returned (.int .i64 1) ∧ TQ w' B b (del (g : Int) (mL ⟨0, k, c, p, d, v, 0, 0, 0⟩ 1000)) 0 ∧ Fr (fun k => k = b) w w') := fun w q => by
        have := drop_ok q 1
        rw [drop_one rfl rfl hsr hg1, len_ins_new (by rw [get_del, if_pos rfl])] at this
        refine this.mono fun e w' h => ⟨?_, h.2⟩
        rw [h.1]
        congr 2
        omega
      have HD0 : Hid (∀ w, TQ w B b (del (g : Int) (mL ⟨0, k, c, p, d, v, 0, 0, 0⟩ 1000)) 0 → Calls Try.prog 20 #[.pointer (some ⟨B, 0, none⟩), .int .i64 0] w fun e w' => e = .returned (.int .i64 999) ∧ True ∧ Fr (fun k => k = b) w w') := fun w q => by
        have := drop_ok q 0
        rw [drop_rest rfl] at this
        refine this.mono fun e w' h => ⟨?_, trivial, h.2.2⟩
        rw [h.1]
        congr 2
        simp only [List.length_nil]
        omega
      have g0 : (0 : Int) ≤ g := by omega
      have g1 : (g : Int) < 1000 := by omega
      clear hsr hgt hln hwg hg1 hg m0 m1
      go_wp2_with (first
        | ((with_reducible refine ld_gate ?_); refine wpList_load_mid rfl 29 (Operand.tmp 3) rfl X 0 rfl [_, _, _, _, _] _ (HEV.out _ F5.out) Try.underlying29 rfl size_event ?_; go_frame)
        | (go_at_call 19; refine HDL.out.mono ?_; rintro e w5 ⟨rfl, q5, f5⟩; have F5 : Hid (Fr No w1 w5) := HFR.out _ _ F4.out f5; have HQ5 := Lib.hid q5; clear q5 f5)
        | (go_at_call 18; refine (HC1.out _ HQ5.out).mono ?_; rintro e w6 ⟨rfl, q6, f6⟩; have F6 : Hid (Fr No w1 w6) := HFR.out _ _ F5.out f6; have HQ6 := Lib.hid q6; clear q6 f6)
        | (go_at_call 20; refine (HD1.out _ HQ6.out).mono ?_; rintro e w7 ⟨rfl, q7, f7⟩; have F7 : Hid (Fr No w1 w7) := HFR.out _ _ F6.out f7; have HQ7 := Lib.hid q7; clear q7 f7 HQ6)
        | (go_at_call 20; refine (HD0.out _ HQ7.out).mono ?_; rintro e w8 ⟨rfl, q8, f8⟩; have F8 : Hid (Fr No w1 w8) := HFR.out _ _ F7.out f8; clear q8 f8)
        | (go_at_call 9; refine (awake_any _).mono ?_; rintro e w9 ⟨rfl, f9⟩; have F9 : Hid (Fr No W w9) := F1.out.trans (F8.out.trans f9); clear f9))
      go_ret
      exact ⟨rfl, F9.out⟩
end Go.Proofs.Ytkjokmfhmppinaa
