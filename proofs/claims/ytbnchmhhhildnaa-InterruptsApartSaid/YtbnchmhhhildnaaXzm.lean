/- Interrupts: InterruptsApart's walk. -/
import Derived.Test.YtbnchmhhhildnaaXzs
namespace Go.Proofs.Ytbnchmhhhildnaa
open Go.RowKit Go.Maps
set_option linter.unusedVariables false

set_option maxRecDepth 100000 in
set_option maxHeartbeats 4000000 in
theorem apart_not {W : World} (ln : Int) (a : Option Addr) (n cap : Nat) (h : okL ln n = false) : Calls Try.prog 6 #[.int .i64 ln, .slice a n cap] W fun e w' => e = .returned (.bool true) ∧ Fr No W w' := by
  have HN := Lib.hid new8
  have HN2 := Lib.hid new8
  by_cases h1 : 40 < n
  · have d1 : decide (40 < (n : Int)) = true := by simp; omega
    clear h h1
    go_enter Try.func6, Try.ntmps6
    go_wp2_with (first
      | (go_at_call 10; refine (HN.out _).mono ?_; clear HN; rintro e w1 ⟨B, rfl, cs, q1, q2, q3⟩; have G1 := Lib.hid q3; clear q1 q2 q3)
      | (go_at_call 10; refine (HN2.out _).mono ?_; rintro e w2 ⟨D, rfl, ds, q1, q2, q3⟩; have F1 := Lib.hid (G1.out.trans q3); clear q1 q2 q3)
      | (go_at_call 9; refine (awake_any _).mono ?_; rintro e w2 ⟨rfl, q⟩; have F2 := Lib.hid (F1.out.trans q); clear q))
    go_ret
    exact ⟨rfl, F2.out⟩
  have d1 : decide (40 < (n : Int)) = false := by simp; omega
  by_cases h2 : ln < 0
  · have d2 : decide (ln < 0) = true := by simpa using h2
    clear h h1 h2
    go_enter Try.func6, Try.ntmps6
    go_wp2_with (first
      | (go_at_call 10; refine (HN.out _).mono ?_; clear HN; rintro e w1 ⟨B, rfl, cs, q1, q2, q3⟩; have G1 := Lib.hid q3; clear q1 q2 q3)
      | (go_at_call 10; refine (HN2.out _).mono ?_; rintro e w2 ⟨D, rfl, ds, q1, q2, q3⟩; have F1 := Lib.hid (G1.out.trans q3); clear q1 q2 q3)
      | (go_at_call 9; refine (awake_any _).mono ?_; rintro e w2 ⟨rfl, q⟩; have F2 := Lib.hid (F1.out.trans q); clear q))
    go_ret
    exact ⟨rfl, F2.out⟩
  have d2 : decide (ln < 0) = false := by simpa using h2
  have d3 : decide (8 ≤ ln) = true := by
    simp [okL] at h
    simp
    omega
  clear h h1 h2
  go_enter Try.func6, Try.ntmps6
  go_wp2_with (first
    | (go_at_call 10; refine (HN.out _).mono ?_; clear HN; rintro e w1 ⟨B, rfl, cs, q1, q2, q3⟩; have G1 := Lib.hid q3; clear q1 q2 q3)
      | (go_at_call 10; refine (HN2.out _).mono ?_; rintro e w2 ⟨D, rfl, ds, q1, q2, q3⟩; have F1 := Lib.hid (G1.out.trans q3); clear q1 q2 q3)
    | (go_at_call 9; refine (awake_any _).mono ?_; rintro e w2 ⟨rfl, q⟩; have F2 := Lib.hid (F1.out.trans q); clear q))
  go_ret
  exact ⟨rfl, F2.out⟩
/-- A controller's blocks are those that it has. -/
theorem CE.freeze {O : Nat → Prop} {N : Nat} {w : World} {B : Nat} {s : IS} (h : CE O N w B s) (M : Nat) : CE (fun k => (O k ∨ N ≤ k) ∧ k < w.heap.size) M w B s := by
  obtain ⟨y, O', h1, h2⟩ := h
  exact ⟨y, O', h1, fun k hk => .inl ⟨h2 k hk, h1.top k hk⟩⟩
def opsE (l : List OpR) : List Value := l.flatMap opCs
theorem opsE_app (l : List OpR) (x : OpR) : opsE (l ++ [x]) = opsE l ++ opCs x := by simp [opsE]
theorem opsE_get : ∀ (l : List OpR) (i q : Nat) (d : OpR), l[i]? = some d → q < 9 → (opsE l)[i * 9 + q]? = (opCs d)[q]?
  | a :: r, 0, q, d, h, hq => by
    cases h
    unfold opsE
    rw [List.flatMap_cons, Nat.zero_mul, Nat.zero_add, List.getElem?_append_left (by exact hq)]
  | a :: r, i + 1, q, d, h, hq => by
    unfold opsE
    rw [List.flatMap_cons, List.getElem?_append_right (by show 9 ≤ _; omega)]
    have : (i + 1) * 9 + q - (opCs a).length = i * 9 + q := by show (i + 1) * 9 + q - 9 = _; omega
    rw [this]
    exact opsE_get r i q d h hq
theorem ops_own {W : World} {lo : Nat} {v : Value} {L : List OpR} (h : W.ownsRow lo 34 9 v L.length (opsE L)) (hw : ∀ o ∈ L, isW o.ln ∧ isW o.ix) : ∃ a cap, v = .slice a L.length cap ∧ OpsIn W a L ∧ (L ≠ [] → ∀ b off, a = some ⟨b, off, none⟩ → lo ≤ b ∧ b < W.heap.size) := by
  obtain ⟨a, cap, rfl⟩ := own_shape h
  refine ⟨a, cap, rfl, ⟨?_, hw⟩, fun hne b off e => ?_⟩
  · by_cases hne : L = []
    · exact .inl hne
    · obtain ⟨g, cap2, e⟩ := own_slice2 h (fun e => hne (List.length_eq_zero_iff.1 e))
      cases e
      refine .inr ⟨g, 0, rfl, (h.lt g rfl).2, fun i o hi q u hu => ?_⟩
      have hq : q < 9 := (List.getElem?_eq_some_iff.1 hu).1
      rw [Nat.zero_add]
      exact own_cells h (by rw [opsE_get L i q o hi hq]; exact hu)
  · subst e
    exact h.lt b rfl
abbrev opz : Value := .agg #[.int .i64 0, .int .i64 0, .int .i64 0, .int .i64 0, .int .i64 0, .int .i64 0, .int .i64 0, .int .i64 0, .bool false]
theorem info_op : (Try.prog.info? 34).map (fun i => (i.zero, i.size, i.bytes)) = some (some opz, 9, 72) := by kernel_rfl
theorem filter_take {P : List OpR} {i : Nat} {o : OpR} (p : OpR → Bool) (h : P[i]? = some o) : (P.take (i + 1)).filter p = (P.take i).filter p ++ (if p o then [o] else []) := by
  rw [List.take_add_one, h, List.filter_append]
  congr 1
  cases hp : p o <;> simp [hp]
set_option maxRecDepth 100000 in
set_option maxHeartbeats 8000000 in
theorem apart_ok {W : World} {ln : Nat} {a : Option Addr} {P : List OpR} (cap : Nat) (h8 : ln < 8) (hl : P.length ≤ 40) (hP : OpsIn W a P) : Calls Try.prog 6 #[.int .i64 (ln : Int), .slice a P.length cap] W fun e w' => e = .returned (.bool true) ∧ Fr No W w' := by
  have HN := Lib.hid new8
  have HN2 := Lib.hid new8
  have HP := Lib.hid hP
  have HL := Lib.hid hl
  have d1 : decide (40 < (P.length : Int)) = false := by simp; omega
  have d2 : decide ((ln : Int) < 0) = false := by simp
  have d3 : decide (8 ≤ (ln : Int)) = false := by simp; omega
  have H8 := Lib.hid h8
  have l40 : (P.length : Int) ≤ 40 := by omega
  clear hl hP h8
  obtain ⟨it, hi0, hz0, hz1, hz2⟩ := info_parts info_op
  have HT0 := Lib.hid hi0
  have HT1 := Lib.hid hz0
  have HT2 := Lib.hid hz1
  have HT3 := Lib.hid hz2
  clear hi0 hz0 hz1 hz2
  go_enter Try.func6, Try.ntmps6
  go_upto_region 2 with (go_at_call 10; refine (HN.out _).mono ?_; clear HN; rintro e w1 ⟨B, rfl, cs, q1, q2, q3⟩; have HCS := Lib.hid q1; have C1 := Lib.hid q2; have F1 := Lib.hid q3; clear q1 q2 q3)
  go_upto_region 5 with (go_at_call 10; refine (HN2.out _).mono ?_; rintro e w2 ⟨D, rfl, ds, q1, q2, q3⟩; have HDS := Lib.hid q1; have D2 := Lib.hid q2; have F2 := Lib.hid q3; clear q1 q2 q3)
  clear d1 d2 d3 HN2
  have F12 := Lib.hid (F1.out.trans F2.out)
  have KC : Hid (IOk (newS cs)) := newS_ok (by rw [HCS.out]; omega) (by rw [HCS.out]; omega)
  have KD : Hid (IOk (newS ds)) := newS_ok (by rw [HDS.out]; omega) (by rw [HDS.out]; omega)
  have HP2 := Lib.hid (HP.out.fr F12.out (fun _ _ _ _ _ => id))
  go_wp2
  go_loopw [9, 11, 52] (fun v9 v11 vi wr => ∃ (i : Nat) (v : Value), vi = .int .i64 i ∧ Hid (v9 = v ∧ i ≤ P.length ∧ (∀ o ∈ P.take i, okO o = true) ∧ wr.ownsRow w2.heap.size 34 9 v ((P.take i).filter (ownO ln)).length (opsE ((P.take i).filter (ownO ln))) ∧ Fr No w2 wr)) (fun _ _ vi _ => P.length - (intOf vi).toNat)
  case atStart => exact ⟨0, _, rfl, rfl, Nat.zero_le _, fun o ho => (by cases ho), World.ownsRow_nil _ _ _ _, Fr.refl _ _⟩
  case round =>
    obtain ⟨i, v, rfl, HI⟩ := hrel
    obtain ⟨e9, hil, hok, how, hfr⟩ := HI.out
    subst e9
    have i0 : (0 : Int) ≤ i := by omega
    have i2 : (i : Int) ≤ 1000 := by omega
    by_cases hi : i < P.length
    · have i1 : (i : Int) < (P.length : Nat) := by omega
      have ho := List.getElem?_eq_getElem hi
      generalize P[i] = o at ho
      have hP3 := HP2.out.fr hfr (fun _ _ _ _ _ => id)
      rcases hP3.1 with e | ⟨b, off, rfl, hbl, hc⟩
      · rw [e] at hi; cases hi
      have HRA := Lib.hid (hc i o ho)
      have HFT := Lib.hid (filter_take (ownO ln) ho)
      have HTK : Hid (∀ q ∈ P.take (i + 1), q ∈ P.take i ∨ q = o) := fun q hq => by rw [List.take_add_one, ho] at hq; simpa using hq
      have HOK := Lib.hid hok
      have HFW := Lib.hid hfr
      have HI1 : Hid (i + 1 ≤ P.length) := hi
      have hln : ((P.take i).filter (ownO ln)).length ≤ i := Nat.le_trans (List.length_filter_le _ _) (by rw [List.length_take]; omega)
      generalize hQ : (P.take i).filter (ownO ln) = Q at how HFT hln
      obtain ⟨av, cv, hvv⟩ := own_shape how
      subst hvv
      have HOW := Lib.hid how
      have HMS : Hid (P.length - (intOf (Value.int IntKind.i64 ((i : Int) + 1))).toNat < P.length - (intOf (Value.int IntKind.i64 (i : Int))).toNat) := by
        show _ < _
        simp only [intOf]
        omega
      obtain ⟨kd, lo, ix, k, c, p, d, v, fi⟩ := o
      have HQL : Hid (Q.length + 1 ≤ maxLen ∧ (Q.length + 1) * 72 ≤ 140737488355328) := ⟨by unfold maxLen; omega, by omega⟩
      clear HI hi hil hok how hfr hbl hc hP3 ho hQ hln
      unfold opCs at HRA
      go_upto_region 9 with (first
        | ((with_reducible refine ld_gate ?_); refine wpList_load_mid rfl 34 (Operand.tmp 54) rfl b (off + i * 9) rfl [_, _, _, _, _, _, _, _, _] _ HRA.out Try.underlying34 rfl size_op ?_; go_frame)
        | ((with_reducible refine st_gate ?_); refine wpList_store_row rfl 34 (Operand.tmp 11) (Operand.tmp 55) rfl wr.heap.size (opC kd lo ix k c p d v fi) rfl rfl _ (opC 0 0 0 0 0 0 0 0 false) (RowAt.new wr _ _) size_op rfl (opC_one _ _ _ _ _ _ _ _ _) ?_; rw [World.setRow_alloc_new]))
      have HX0 := Lib.hid (RowAt.new wr 34 (opC kd lo ix k c p d v fi))
      have HF0 : Hid (Fr No wr (wr.alloc (.cells (opC kd lo ix k c p d v fi) 34))) := Fr.alloc _ _ _
      generalize World.alloc wr _ = W3 at HX0 HF0 ⊢
      generalize wr.heap.size = X at HX0 ⊢
      have HF3 := Lib.hid (HFW.out.trans HF0.out)
      have HOW3 := Lib.hid (own_fr2 HOW.out HF0.out (fun _ _ => id))
      have x0 : W3.cell? ⟨X, 0, none⟩ = some (.int .i64 kd) := HX0.out.cell 0
      have x1 : W3.cell? ⟨X, 1, none⟩ = some (.int .i64 lo) := HX0.out.cell 1
      have x2 : W3.cell? ⟨X, 2, none⟩ = some (.int .i64 ix) := HX0.out.cell 2
      have HAW := Lib.hid (awake_any W3)
      have HRW := Lib.hid HX0.out.range
      have HONE : Hid (∀ u ∈ opCs ⟨kd, lo, ix, k, c, p, d, v, fi⟩, u.oneCell' = true) := by show ∀ u ∈ _, _; simp [opCs, Value.oneCell']
      have HSZ3 : Hid (w2.heap.size ≤ W3.heap.size) := HF3.out.size
      unfold opC at HRW
      unfold opCs at HONE
      by_cases c1 : kd = 1
      · have g1 : (kd == 1) = true := by simpa using c1
        clear c1
        clear HRW HONE HOW HOW3
        go_wp2_with (go_at_call 9; refine HAW.out.mono ?_; rintro e w9 ⟨rfl, q⟩; have F9 := Lib.hid ((F12.out.trans HF3.out).trans q); clear q)
        go_ret
        exact ⟨rfl, F9.out⟩
      have g1 : (kd == 1) = false := by simpa using c1
      by_cases c2 : kd < 0
      · have g2 : decide (kd < 0) = true := by simpa using c2
        clear c1 c2
        clear HRW HONE HOW HOW3
        go_wp2_with (go_at_call 9; refine HAW.out.mono ?_; rintro e w9 ⟨rfl, q⟩; have F9 := Lib.hid ((F12.out.trans HF3.out).trans q); clear q)
        go_ret
        exact ⟨rfl, F9.out⟩
      have g2 : decide (kd < 0) = false := by simpa using c2
      by_cases c3 : 5 < kd
      · have g3 : decide (5 < kd) = true := by simpa using c3
        clear c1 c2 c3
        clear HRW HONE HOW HOW3
        go_wp2_with (go_at_call 9; refine HAW.out.mono ?_; rintro e w9 ⟨rfl, q⟩; have F9 := Lib.hid ((F12.out.trans HF3.out).trans q); clear q)
        go_ret
        exact ⟨rfl, F9.out⟩
      have g3 : decide (5 < kd) = false := by simpa using c3
      by_cases c4 : kd = 0
      · have g4 : (kd != 0) = false := by simpa using c4
        have HO0 : Hid (okO ⟨kd, lo, ix, k, c, p, d, v, fi⟩ = true) := by show _ = _; simp [okO]; omega
        have g5 : (kd == 5) = false := by simp; omega
        by_cases c5 : lo = (ln : Int)
        · have HN0 : Hid (ownO ln ⟨kd, lo, ix, k, c, p, d, v, fi⟩ = true) := by show _ = _; simp [ownO, c5]
          have g6 : (lo == (ln : Int)) = true := by simpa using c5
          clear c1 c2 c3 c4 c5
          have HFQ := Lib.hid (HFT.out.trans (by rw [HN0.out]; simp : Q ++ (if ownO ln ⟨kd, lo, ix, k, c, p, d, v, fi⟩ = true then [⟨kd, lo, ix, k, c, p, d, v, fi⟩] else []) = Q ++ [⟨kd, lo, ix, k, c, p, d, v, fi⟩]))
          go_wp2_with (first
          | ((with_reducible refine ld_gate ?_); refine wpList_load_mid rfl 34 (Operand.tmp 11) rfl X 0 rfl [_, _, _, _, _, _, _, _, _] _ HRW.out Try.underlying34 rfl size_op ?_; go_frame)
          | (at_builtin; refine wpList_append_own _ rfl (.tmp 89) (.tmp 91) 22 rfl w2.heap.size 34 it opz 9 72 Try.underlying22 HT0.out HT1.out HT2.out HT3.out rfl (by decide) (.slice av Q.length cv) Q.length (opsE Q) rfl (HOW3.out.alloc _) ⟨W3.heap.size, 0, none⟩ 1 1 [.int .i64 kd, .int .i64 lo, .int .i64 ix, .int .i64 k, .int .i64 c, .int .i64 p, .int .i64 d, .int .i64 v, .bool fi] rfl rfl (fun j u hu => World.news_of_block (cs := #[.int .i64 kd, .int .i64 lo, .int .i64 ix, .int .i64 k, .int .i64 c, .int .i64 p, .int .i64 d, .int .i64 v, .bool fi]) (t := 34) (fr := (0, 0)) (RowAt.new W3 _ _) j u hu) HONE.out HQL.out.1 HQL.out.2 (by have := HSZ3.out; simp; omega) ?_; intro v4 w4 hown hgrow hnil; have HOA := Lib.hid hown; have HG := Lib.hid hgrow; clear hown hgrow hnil))
          go_roundw
          case rel =>
            refine ⟨i + 1, _, by push_cast; rfl, rfl, HI1.out, fun q hq => (HTK.out q hq).elim (HOK.out q) (fun e => by rw [e]; exact HO0.out), ?_, ?_⟩
            · rw [HFQ.out, List.length_append, opsE_app]; exact HOA.out
            · exact (HF3.out.trans (Fr.alloc No _ _)).over (Fr.grown (S := fun k => (Value.slice av Q.length cv).ownBlock = some k) HG.out (fun k e => e)) (fun k e => .inr (HOW.out.lt k e).1)
          case measure => exact HMS.out
        · have HN0 : Hid (ownO ln ⟨kd, lo, ix, k, c, p, d, v, fi⟩ = false) := by show _ = _; simp [ownO, c5]; omega
          have g6 : (lo == (ln : Int)) = false := by simpa using c5
          clear c1 c2 c3 c4 c5
          have HFQ := Lib.hid (HFT.out.trans (by rw [HN0.out]; simp : Q ++ (if ownO ln ⟨kd, lo, ix, k, c, p, d, v, fi⟩ = true then [⟨kd, lo, ix, k, c, p, d, v, fi⟩] else []) = Q))
          go_wp2
          go_roundw
          case rel => exact ⟨i + 1, _, by push_cast; rfl, rfl, HI1.out, fun q hq => (HTK.out q hq).elim (HOK.out q) (fun e => by rw [e]; exact HO0.out), by rw [HFQ.out]; exact HOW3.out, HF3.out⟩
          case measure => exact HMS.out
      · have g4 : (kd != 0) = true := by simpa using c4
        by_cases c6 : 0 ≤ ix
        · have g6 : decide (0 ≤ ix) = true := by simpa using c6
          clear c1 c2 c3 c4 c6
          clear HRW HONE HOW HOW3
          go_wp2_with (go_at_call 9; refine HAW.out.mono ?_; rintro e w9 ⟨rfl, q⟩; have F9 := Lib.hid ((F12.out.trans HF3.out).trans q); clear q)
          go_ret
          exact ⟨rfl, F9.out⟩
        have HO0 : Hid (okO ⟨kd, lo, ix, k, c, p, d, v, fi⟩ = true) := by show _ = _; simp [okO]; omega
        have g6 : decide (0 ≤ ix) = false := by simpa using c6
        by_cases c7 : kd = 5
        · have HN0 : Hid (ownO ln ⟨kd, lo, ix, k, c, p, d, v, fi⟩ = true) := by show _ = _; simp [ownO, c7]
          have g5 : (kd == 5) = true := by simpa using c7
          clear c1 c2 c3 c4 c6 c7
          have HFQ := Lib.hid (HFT.out.trans (by rw [HN0.out]; simp : Q ++ (if ownO ln ⟨kd, lo, ix, k, c, p, d, v, fi⟩ = true then [⟨kd, lo, ix, k, c, p, d, v, fi⟩] else []) = Q ++ [⟨kd, lo, ix, k, c, p, d, v, fi⟩]))
          go_wp2_with (first
          | ((with_reducible refine ld_gate ?_); refine wpList_load_mid rfl 34 (Operand.tmp 11) rfl X 0 rfl [_, _, _, _, _, _, _, _, _] _ HRW.out Try.underlying34 rfl size_op ?_; go_frame)
          | (at_builtin; refine wpList_append_own _ rfl (.tmp 89) (.tmp 91) 22 rfl w2.heap.size 34 it opz 9 72 Try.underlying22 HT0.out HT1.out HT2.out HT3.out rfl (by decide) (.slice av Q.length cv) Q.length (opsE Q) rfl (HOW3.out.alloc _) ⟨W3.heap.size, 0, none⟩ 1 1 [.int .i64 kd, .int .i64 lo, .int .i64 ix, .int .i64 k, .int .i64 c, .int .i64 p, .int .i64 d, .int .i64 v, .bool fi] rfl rfl (fun j u hu => World.news_of_block (cs := #[.int .i64 kd, .int .i64 lo, .int .i64 ix, .int .i64 k, .int .i64 c, .int .i64 p, .int .i64 d, .int .i64 v, .bool fi]) (t := 34) (fr := (0, 0)) (RowAt.new W3 _ _) j u hu) HONE.out HQL.out.1 HQL.out.2 (by have := HSZ3.out; simp; omega) ?_; intro v4 w4 hown hgrow hnil; have HOA := Lib.hid hown; have HG := Lib.hid hgrow; clear hown hgrow hnil))
          go_roundw
          case rel =>
            refine ⟨i + 1, _, by push_cast; rfl, rfl, HI1.out, fun q hq => (HTK.out q hq).elim (HOK.out q) (fun e => by rw [e]; exact HO0.out), ?_, ?_⟩
            · rw [HFQ.out, List.length_append, opsE_app]; exact HOA.out
            · exact (HF3.out.trans (Fr.alloc No _ _)).over (Fr.grown (S := fun k => (Value.slice av Q.length cv).ownBlock = some k) HG.out (fun k e => e)) (fun k e => .inr (HOW.out.lt k e).1)
          case measure => exact HMS.out
        have g5 : (kd == 5) = false := by simpa using c7
        by_cases c5 : lo = (ln : Int)
        · have HN0 : Hid (ownO ln ⟨kd, lo, ix, k, c, p, d, v, fi⟩ = true) := by show _ = _; simp [ownO, c5]
          have g7 : (lo == (ln : Int)) = true := by simpa using c5
          clear c1 c2 c3 c4 c5 c6 c7
          have HFQ := Lib.hid (HFT.out.trans (by rw [HN0.out]; simp : Q ++ (if ownO ln ⟨kd, lo, ix, k, c, p, d, v, fi⟩ = true then [⟨kd, lo, ix, k, c, p, d, v, fi⟩] else []) = Q ++ [⟨kd, lo, ix, k, c, p, d, v, fi⟩]))
          go_wp2_with (first
          | ((with_reducible refine ld_gate ?_); refine wpList_load_mid rfl 34 (Operand.tmp 11) rfl X 0 rfl [_, _, _, _, _, _, _, _, _] _ HRW.out Try.underlying34 rfl size_op ?_; go_frame)
          | (at_builtin; refine wpList_append_own _ rfl (.tmp 89) (.tmp 91) 22 rfl w2.heap.size 34 it opz 9 72 Try.underlying22 HT0.out HT1.out HT2.out HT3.out rfl (by decide) (.slice av Q.length cv) Q.length (opsE Q) rfl (HOW3.out.alloc _) ⟨W3.heap.size, 0, none⟩ 1 1 [.int .i64 kd, .int .i64 lo, .int .i64 ix, .int .i64 k, .int .i64 c, .int .i64 p, .int .i64 d, .int .i64 v, .bool fi] rfl rfl (fun j u hu => World.news_of_block (cs := #[.int .i64 kd, .int .i64 lo, .int .i64 ix, .int .i64 k, .int .i64 c, .int .i64 p, .int .i64 d, .int .i64 v, .bool fi]) (t := 34) (fr := (0, 0)) (RowAt.new W3 _ _) j u hu) HONE.out HQL.out.1 HQL.out.2 (by have := HSZ3.out; simp; omega) ?_; intro v4 w4 hown hgrow hnil; have HOA := Lib.hid hown; have HG := Lib.hid hgrow; clear hown hgrow hnil))
          go_roundw
          case rel =>
            refine ⟨i + 1, _, by push_cast; rfl, rfl, HI1.out, fun q hq => (HTK.out q hq).elim (HOK.out q) (fun e => by rw [e]; exact HO0.out), ?_, ?_⟩
            · rw [HFQ.out, List.length_append, opsE_app]; exact HOA.out
            · exact (HF3.out.trans (Fr.alloc No _ _)).over (Fr.grown (S := fun k => (Value.slice av Q.length cv).ownBlock = some k) HG.out (fun k e => e)) (fun k e => .inr (HOW.out.lt k e).1)
          case measure => exact HMS.out
        · have HN0 : Hid (ownO ln ⟨kd, lo, ix, k, c, p, d, v, fi⟩ = false) := by show _ = _; simp [ownO, c5, c7]
          have g7 : (lo == (ln : Int)) = false := by simpa using c5
          clear c1 c2 c3 c4 c5 c6 c7
          have HFQ := Lib.hid (HFT.out.trans (by rw [HN0.out]; simp : Q ++ (if ownO ln ⟨kd, lo, ix, k, c, p, d, v, fi⟩ = true then [⟨kd, lo, ix, k, c, p, d, v, fi⟩] else []) = Q))
          go_wp2
          go_roundw
          case rel => exact ⟨i + 1, _, by push_cast; rfl, rfl, HI1.out, fun q hq => (HTK.out q hq).elim (HOK.out q) (fun e => by rw [e]; exact HO0.out), by rw [HFQ.out]; exact HOW3.out, HF3.out⟩
          case measure => exact HMS.out
    · have i1 : ¬ (i : Int) < (P.length : Nat) := by omega
      have hile : i = P.length := by omega
      rw [hile, List.take_length] at hok how
      have HOK := Lib.hid hok
      have hwf : ∀ o ∈ P.filter (ownO ln), isW o.ln ∧ isW o.ix := fun o ho => HP.out.2 o (List.mem_filter.1 ho).1
      obtain ⟨av, cv, hvv, hOI, hOB⟩ := ops_own how hwf
      subst hvv
      have HOI := Lib.hid hOI
      have HOB := Lib.hid hOB
      have F3 := Lib.hid (F12.out.trans hfr)
      have HS23 : Hid (w2.heap.size ≤ wr.heap.size) := hfr.size
      have HS12 : Hid (W.heap.size ≤ w1.heap.size ∧ w1.heap.size ≤ w2.heap.size) := ⟨F1.out.size, F2.out.size⟩
      have C3 := Lib.hid (((C1.out.freeze wr.heap.size).no F2.out).no hfr)
      have D3 := Lib.hid (fun M => (D2.out.freeze M).no hfr)
      have HFLN : Hid ((P.filter (ownO ln)).length ≤ 40) := Nat.le_trans (List.length_filter_le _ _) HL.out
      have HRC := Lib.hid (run_ce cap C3.out KC.out (Nat.le_refl _) (HP2.out.fr hfr (fun _ _ _ _ _ => id)) (fun hne b off e hb hh => by
        rcases HP.out.1 with e2 | ⟨b2, off2, e2, hb2, _⟩
        · exact hne e2
        · rw [e] at e2; cases e2
          have := HS12.out; have := HS23.out
          rcases hh with ⟨hh | hh, _⟩ | hh
          · exact hh
          · omega
          · omega) HL.out)
      have HSIM : Hid (∃ l m, Sim (runS (newS cs) P) (runS (newS ds) (P.filter (ownO ln))) ln l m) := by
        obtain ⟨l, m, h⟩ := sim_new (cs := cs) (ds := ds) (n := ln) (by rw [HCS.out]; exact H8.out) (by rw [HDS.out]; exact H8.out)
        exact Sim.run P h KC.out KD.out (by have := HL.out; show 0 + _ < _; omega) (by have := HL.out; show 0 + _ < _; omega) HOK.out
      have KS := Lib.hid (runS_ok KC.out P)
      have KT := Lib.hid (runS_ok KD.out (P.filter (ownO ln)))
      have HRD : Hid (∀ w, Fr (Ft (fun k => (No k ∨ W.heap.size ≤ k) ∧ k < w1.heap.size) wr.heap.size) wr w → Calls Try.prog 19 #[.pointer (some ⟨D, 0, none⟩), .slice av (P.filter (ownO ln)).length cv] w fun e w' => e = .returned (.tuple #[]) ∧ CE (fun k => (No k ∨ w1.heap.size ≤ k) ∧ k < w2.heap.size) w.heap.size w' D (runS (newS ds) (P.filter (ownO ln))) ∧ Fr (Ft (fun k => (No k ∨ w1.heap.size ≤ k) ∧ k < w2.heap.size) w.heap.size) w w') := fun w f => by
        have e1 := HS23.out
        have e2 := f.size
        refine run_ce cv ((D3.out w.heap.size).fr f (fun k k1 k2 k3 => ?_)) KD.out (Nat.le_refl _) (HOI.out.fr f (fun hne b off e hb hh => ?_)) (fun hne b off e hb hh => ?_) HFLN.out
        · rcases k2 with ⟨k2 | k2, k4⟩ | k2
          · exact k2
          · rcases k3 with ⟨_, k3⟩ | k3 <;> omega
          · omega
        · have := HOB.out hne b off e
          have := HS12.out
          rcases hh with ⟨_, hh⟩ | hh <;> omega
        · have := HOB.out hne b off e
          rcases hh with ⟨_, hh⟩ | hh <;> omega
      generalize runS (newS cs) P = s4 at HRC HSIM KS
      generalize runS (newS ds) (P.filter (ownO ln)) = t4 at HRD HSIM KT
      obtain ⟨l4, m4, hsim⟩ := HSIM.out
      have SIM := Lib.hid hsim
      have WS : Hid (W.heap.size ≤ wr.heap.size) := Nat.le_trans HS12.out.1 (Nat.le_trans HS12.out.2 HS23.out)
      have SRC : Hid (∀ w, CE (fun k => (No k ∨ W.heap.size ≤ k) ∧ k < w1.heap.size) wr.heap.size w B s4 → ∀ w', Fr (Ft (fun k => (No k ∨ w1.heap.size ≤ k) ∧ k < w2.heap.size) w.heap.size) w w' → CE (fun k => ((((No k ∨ W.heap.size ≤ k) ∧ k < w1.heap.size) ∨ wr.heap.size ≤ k) ∧ k < w.heap.size)) w'.heap.size w' B s4) := fun w hc w' f => by
        refine (hc.freeze w'.heap.size).fr f (fun k k1 k2 k3 => ?_)
        have := HS23.out
        have := f.size
        rcases k2 with ⟨⟨_, k2⟩ | k2, k4⟩ | k2
        · rcases k3 with ⟨k3 | k3, k5⟩ | k3
          · exact k3
          · omega
          · omega
        · rcases k3 with ⟨k3 | k3, k5⟩ | k3
          · exact k3
          · omega
          · omega
        · omega
      clear hsim hi hok how hfr hil hile hOI hOB hwf HI HSIM i0 i2
      go_upto_region 15 with (go_at_call 19; refine HRC.out.mono ?_; rintro e w4 ⟨rfl, q1, q2⟩; have C4 := Lib.hid q1; have G4 := Lib.hid q2; clear q1 q2)
      have F4 : Hid (Fr No W w4) := F3.out.thenN (G4.out.mono (fun k _ e => .inr (by have := WS.out; rcases e with ⟨e | e, _⟩ | e; exact e.elim; omega; omega)))
      go_upto_region 16 with (go_at_call 19; refine (HRD.out w4 G4.out).mono ?_; rintro e w5 ⟨rfl, q1, q2⟩; have D5 := Lib.hid (q1.freeze w5.heap.size); have C5 := Lib.hid (SRC.out w4 C4.out w5 q2); have G5 := Lib.hid q2; clear q1 q2)
      have F5 : Hid (Fr No W w5) := F4.out.thenN (G5.out.mono (fun k _ e => .inr (by have := HS12.out; have := F4.out.size; rcases e with ⟨e | e, _⟩ | e; exact e.elim; omega; omega)))
      have HMC := Lib.hid (masks_ce C5.out KS.out (ln : Int))
      have HMD := Lib.hid (masks_ce D5.out KT.out (ln : Int))
      have HSC := Lib.hid (spur_ce C5.out KS.out (ln : Int))
      have HSD := Lib.hid (spur_ce D5.out KT.out (ln : Int))
      rw [ckL_nat SIM.out.ls, if_pos rfl] at HMC HSC
      rw [ckL_nat SIM.out.lt, if_pos rfl] at HMD HSD
      rw [← SIM.out.sum] at HMD
      rw [spI_nat SIM.out.ls] at HSC
      rw [spI_nat SIM.out.lt, ← SIM.out.sp] at HSD
      have HRAC := Lib.hid (raise_ce C5.out KS.out SIM.out.ls)
      have HRAD : Hid (∀ w, Fr (Ft (fun k => ((((No k ∨ W.heap.size ≤ k) ∧ k < w1.heap.size) ∨ wr.heap.size ≤ k) ∧ k < w4.heap.size)) w5.heap.size) w5 w → Calls Try.prog 22 #[.pointer (some ⟨D, 0, none⟩), .int .i64 (ln : Int)] w fun e w' => e = .returned (.tuple #[.bool l4.p, .int .i64 0]) ∧ Fr (Ft No W.heap.size) w w') := fun w f => by
        have hd := D5.out.fr f (fun k k1 k2 k3 => by
          have := HS23.out
          have := G4.out.size
          rcases k2 with ⟨⟨⟨k2 | k2, k5⟩ | k2, k4⟩⟩ | k2
          · exact k2
          · rcases k3 with ⟨⟨_, k3⟩ | k3, k6⟩ | k3 <;> omega
          · rcases k3 with ⟨⟨_, k3⟩ | k3, k6⟩ | k3 <;> omega
          · omega)
        have := raise_ce hd KT.out SIM.out.lt
        rw [← SIM.out.p] at this
        refine this.mono ?_
        rintro e w' ⟨rfl, _, g⟩
        refine ⟨rfl, g.mono (fun k _ e => .inr ?_)⟩
        have := HS12.out
        have := F4.out.size
        have := F5.out.size
        rcases e with ⟨⟨e | e, _⟩ | e, _⟩ | e
        · exact e.elim
        · omega
        · omega
        · omega
      go_upto_region 20 with (first
        | (go_at_call 13; refine HMC.out.mono ?_; clear HMC; rintro e w6 ⟨rfl, q⟩; subst q)
        | (go_at_call 13; refine HMD.out.mono ?_; rintro e w6 ⟨rfl, q⟩; subst q)
        | (go_at_call 15; refine HSC.out.mono ?_; clear HSC; rintro e w6 ⟨rfl, q⟩; subst q)
        | (go_at_call 15; refine HSD.out.mono ?_; rintro e w6 ⟨rfl, q⟩; subst q))
      go_upto_region 21 with (go_at_call 22; refine HRAC.out.mono ?_; rintro e w7 ⟨rfl, _, q2⟩; have G7 := Lib.hid q2; clear q2)
      have F7 : Hid (Fr No W w7) := F5.out.thenN (G7.out.mono (fun k _ e => .inr (by have := WS.out; have := F5.out.size; rcases e with ⟨⟨e | e, _⟩ | e, _⟩ | e; exact e.elim; omega; omega; omega)))
      go_wp2_with (first
        | (go_at_call 22; refine (HRAD.out w7 G7.out).mono ?_; rintro e w8 ⟨rfl, q⟩; have F8 := Lib.hid (F7.out.thenN q); clear q)
        | (go_at_call 9; refine (awake_any _).mono ?_; rintro e w9 ⟨rfl, q⟩; have F9 := Lib.hid (F8.out.trans q); clear q))
      go_ret
      exact ⟨rfl, F9.out⟩
theorem apart_any {W : World} {a : Option Addr} {P : List OpR} (cap : Nat) (ln : Int) (hP : OpsIn W a P) : Calls Try.prog 6 #[.int .i64 ln, .slice a P.length cap] W fun e w' => e = .returned (.bool true) ∧ Fr No W w' := by
  cases h : okL ln P.length
  · exact apart_not ln a P.length cap h
  · simp [okL] at h
    obtain ⟨m, rfl⟩ : ∃ m : Nat, ln = m := ⟨ln.toNat, by omega⟩
    exact apart_ok cap (by omega) h.1.1 hP
end Go.Proofs.Ytbnchmhhhildnaa
