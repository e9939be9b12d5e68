/- Timers: TimersPeriods' walk. -/
import Derived.Test.YtkjokmfhmppinaaPf
namespace Go.Proofs.Ytkjokmfhmppinaa
open Go.RowKit Go.Maps
set_option linter.unusedVariables false

theorem one_spIn {W : World} {G : Nat} {f i t : Int} (h : RowAt W G 31 #[.int .i64 f, .int .i64 i, .int .i64 t]) : SpIn W (some ⟨G, 0, none⟩) [(f, i, t)] :=
  .inr ⟨G, 0, rfl, h.lt, fun j x hx => by
    match j, hx with
    | 0, hx =>
      cases hx
      exact h.range⟩
set_option maxRecDepth 100000 in
set_option maxHeartbeats 8000000 in
theorem periods_walk {W : World} {a : Option Addr} {ts : List Int} (f i t : Int) (cap : Nat) (hT : TimesIn W a ts) : Calls Try.prog 7 #[.agg #[.int .i64 f, .int .i64 i, .int .i64 t], .slice a ts.length cap] W fun e w' => e = .returned (.bool true) ∧ Fr No W w' := by
  have HT := Lib.hid hT
  clear hT
  go_enter Try.func7, Try.ntmps7
  go_upto_region 1 with (fail)
  have F1 : Hid (Fr No W (W.alloc (.cells #[.int .i64 f, .int .i64 i, .int .i64 t] 31))) := Fr.alloc _ _ _
  have HX1 := Lib.hid (RowAt.new W 31 #[.int .i64 f, .int .i64 i, .int .i64 t])
  generalize W.alloc _ = w1 at F1 HX1 ⊢
  generalize hX : W.heap.size = X at HX1 ⊢
  have HX := Lib.hid hX
  clear hX
  have HK : Hid (∀ w, Fr No w1 w → w.cell? ⟨X, 0, none⟩ = some (.int .i64 f) ∧ w.cell? ⟨X, 1, none⟩ = some (.int .i64 i) ∧ w.cell? ⟨X, 2, none⟩ = some (.int .i64 t)) := fun w g => ⟨(HX1.out.fr g id).cell 0, (HX1.out.fr g id).cell 1, (HX1.out.fr g id).cell 2⟩
  obtain ⟨c0, c1, c2⟩ := HK.out w1 (Fr.refl _ _)
  by_cases ht : t = 0
  rotate_left
  · have h1 : (t != 0) = true := by simpa using ht
    have h2 : (t == 0) = false := by simpa using ht
    clear ht
    go_wp2_with (go_at_call 9; refine (awake_any _).mono ?_; rintro e w5 ⟨rfl, f5⟩; have F5 : Hid (Fr No W w5) := F1.out.trans f5; clear f5)
    go_ret
    exact ⟨rfl, F5.out⟩
  subst ht
  by_cases hi : i ≤ 0
  · go_wp2_with (go_at_call 9; refine (awake_any _).mono ?_; rintro e w5 ⟨rfl, f5⟩; have F5 : Hid (Fr No W w5) := F1.out.trans f5; clear f5)
    go_ret
    exact ⟨rfl, F5.out⟩
  have hi1 : decide (i ≤ 0) = false := by simpa using hi
  have HI0 : Hid (0 < i) := by show _ < _; omega
  clear hi
  by_cases hl : 30 < ts.length
  · have hl1 : (30 : Int) < ts.length := by omega
    clear hl
    go_wp2_with (go_at_call 9; refine (awake_any _).mono ?_; rintro e w5 ⟨rfl, f5⟩; have F5 : Hid (Fr No W w5) := F1.out.trans f5; clear f5)
    go_ret
    exact ⟨rfl, F5.out⟩
  have hl1 : decide ((30 : Int) < ts.length) = false := by simp; omega
  have HL : Hid (ts.length ≤ 30) := by show _ ≤ _; omega
  clear hl
  go_upto_region 3 with (fail)
  have HA : Hid (∀ w2 G, RowAt w2 G 31 #[.int .i64 f, .int .i64 i, .int .i64 0] → Calls Try.prog 21 #[.slice (some ⟨G, 0, none⟩) 1 1] w2 fun e w' => ∃ p k, e = .returned (.tuple #[.pointer p, .bool k]) ∧ (k = false ∨ k = true ∧ ∃ B b, p = some ⟨B, 0, none⟩ ∧ w2.heap.size ≤ B ∧ w2.heap.size ≤ b ∧ TQ w' B b (pl f i) 0 ∧ isT f = true ∧ isT i = true) ∧ Fr No w2 w') := fun w2 G h => by
    refine (armed_pk (P := [(f, i, 0)]) 1 (one_spIn h)).mono fun e w' ⟨p, k, he, hk, fr⟩ => ⟨p, k, he, ?_, fr⟩
    rcases hk with hk | ⟨hk, B, b, h1, h2, h3, h4, h5⟩
    · exact .inl hk
    · have := h5 0 (f, i, 0) rfl
      simp only [spOk, Bool.and_eq_true] at this
      exact .inr ⟨hk, B, b, h1, h2, h3, h4, this.1.1, this.1.2⟩
  go_upto_region 4 with (first
    | ((with_reducible refine ld_gate ?_); refine wpList_load_mid rfl 31 (Operand.tmp 2) rfl X 0 rfl [_, _, _] _ HX1.out.range Try.underlying31 rfl size_spec ?_; go_frame)
    | (go_at_call 21; refine (HA.out _ _ (RowAt.new w1 _ _)).mono ?_; rintro e w2 ⟨p, k, rfl, hk, f2⟩; have HK2 := Lib.hid hk; have F2 : Hid (Fr No w1 w2) := (Fr.alloc No _ _).trans f2; clear hk f2 c0 c1 c2))
  obtain ⟨c0, c1, c2⟩ := HK.out w2 F2.out
  rcases HK2.out with rfl | ⟨rfl, B, b, rfl, hB, hb, q, hf, hI⟩
  · go_wp2_with (go_at_call 9; refine (awake_any _).mono ?_; rintro e w5 ⟨rfl, f5⟩; have F5 : Hid (Fr No W w5) := F1.out.trans (F2.out.trans f5); clear f5)
    go_ret
    exact ⟨rfl, F5.out⟩
  have HBB : Hid (w1.heap.size ≤ B ∧ w1.heap.size ≤ b) := ⟨by have : (w1.alloc (.cells #[.int .i64 f, .int .i64 i, .int .i64 0] 31)).heap.size = w1.heap.size + 1 := by simp
                                                              omega, by have : (w1.alloc (.cells #[.int .i64 f, .int .i64 i, .int .i64 0] 31)).heap.size = w1.heap.size + 1 := by simp
                                                                        omega⟩
  have HQ2 := Lib.hid q
  have HTI := Lib.hid (And.intro hf hI)
  clear HA HK2 hB hb q hf hI
  by_cases hf0 : f = 0
  · subst hf0
    go_wp2_with (go_at_call 9; refine (awake_any _).mono ?_; rintro e w5 ⟨rfl, f5⟩; have F5 : Hid (Fr No W w5) := F1.out.trans (F2.out.trans f5); clear f5)
    go_ret
    exact ⟨rfl, F5.out⟩
  have hf1 : (f == 0) = false := by simpa using hf0
  have HF0 : Hid (0 < f ∧ f ≤ 1099511627776 ∧ i ≤ 1099511627776) := by
    have e1 := (isT_iff f).1 HTI.out.1
    have e2 := (isT_iff i).1 HTI.out.2
    have e : MT = 1099511627776 := rfl
    show _ ∧ _
    omega
  clear hf0
  go_upto_region 7 with (fail)
  clear c0 c1 c2 hf1 hi1 hl1
  go_wp2
  go_loopw [7, 8, 46] (fun v7 v8 vi wr => ∃ (j : Nat) (n L g c : Int), vi = .int .i64 j ∧ v7 = .int .i64 n ∧ v8 = .int .i64 L ∧ Hid (j ≤ ts.length ∧ TQ wr B b (pl g i) c ∧ isT g = true ∧ St f i L g n ∧ (L = -1 ∧ c = 0 ∨ L = c) ∧ 0 ≤ c ∧ c ≤ 1099511627776 ∧ Fr No w1 wr)) (fun _ _ vi _ => ts.length - (intOf vi).toNat)
  case atStart =>
    refine ⟨0, 0, -1, f, 0, rfl, rfl, rfl, Nat.zero_le _, HQ2.out, HTI.out.1, ⟨?_, .inl ⟨by omega, ((isT_iff f).1 HTI.out.1).2⟩⟩, .inl ⟨rfl, rfl⟩, Int.le_refl _, by decide, F2.out⟩
    unfold want
    rw [if_neg (by have := HF0.out.1; omega)]
  case round =>
    obtain ⟨j, n, L, g, c, rfl, rfl, rfl, HI⟩ := hrel
    have j0 : (0 : Int) ≤ j := by omega
    have j2 : (j : Int) ≤ 30 := by have := HI.out.1; have := HL.out; omega
    have HLL : Hid (L ≤ 1099511627776 ∧ -1 ≤ L) := by
      have := HI.out.2.2.2.2
      show _ ∧ _
      omega
    have HNB : Hid (0 ≤ n ∧ n ≤ 1099511627777) := by
      have e := HI.out.2.2.2.1.1
      refine ⟨e ▸ want_nn HI0.out, ?_⟩
      rw [e]
      unfold want
      have := HLL.out
      have := HF0.out
      split
      · have : (L - f) / i ≤ L - f := Int.ediv_le_self _ (by omega)
        omega
      · omega
    have n0 := HNB.out.1
    have n1 := HNB.out.2
    by_cases hj : j < ts.length
    · have j1 : (j : Int) < ts.length := by omega
      obtain ⟨b0, off, z, rfl, hz, hr⟩ := HT.out.get hj
      have cz : wr.cell? ⟨b0, off + j, none⟩ = some (.int .i64 z) := hr _ (F1.out.trans HI.out.2.2.2.2.2.2.2)
      have HMS : Hid (ts.length - (intOf (Value.int IntKind.i64 ((j : Int) + 1))).toNat < ts.length - (intOf (Value.int IntKind.i64 (j : Int))).toNat) := by
        show _ < _
        simp only [intOf]
        omega
      have HJ3 : Hid (j + 1 ≤ ts.length) := hj
      have HE := Lib.hid (per_expire HI.out.2.1 HI.out.2.2.1 HTI.out.2 z)
      have HFR : Hid (∀ w, Fr (fun k => k = B ∨ k = b) wr w → Fr No w1 w) := fun w g => HI.out.2.2.2.2.2.2.2.over g (fun k e => .inr (by rcases e with rfl | rfl; exact HBB.out.1; exact HBB.out.2))
      clear hz hr hj
      go_upto_region 11 with (go_at_call 23; refine HE.out.mono ?_; rintro e w3 ⟨a3, k3, cap3, z3, rfl, f3, hres⟩; have F3 : Hid (Fr No w1 w3) := HFR.out _ f3; have HR := Lib.hid hres; clear f3 hres)
      clear cz
      rcases HR.out with ⟨hz3, q3⟩ | ⟨rfl, hn, hc, rfl, hq, q3⟩ | ⟨rfl, hn, hc, rfl, h0, h1, ⟨g3, rfl, h3⟩, q3⟩
      · have hz4 : (z3 != 0) = true := by simpa using hz3
        have HQ3 := Lib.hid q3
        clear hz3 q3 HR
        go_wp2
        exact ⟨⟨j + 1, n, L, g, c, by push_cast; rfl, rfl, rfl, HJ3.out, HQ3.out, HI.out.2.2.1, HI.out.2.2.2.1, HI.out.2.2.2.2.1, HI.out.2.2.2.2.2.1, HI.out.2.2.2.2.2.2.1, F3.out⟩, HMS.out⟩
      · have HZ := (isT_iff z).1 hn
        have HST : Hid (St f i z g n) := st_quiet HI.out.2.2.2.1 HI0.out (by have := HI.out.2.2.2.2.1; have := HI.out.2.2.2.2.2.1; omega) HZ.2 (by have := HF0.out; omega)
        have HZ2 : Hid (0 ≤ z ∧ z ≤ 1099511627776) := HZ
        have HQ3 := Lib.hid q3
        clear hn hc hq q3 HR HZ
        go_wp2
        go_loopw [7, 61] (fun v7 vi wr2 => v7 = .int .i64 n ∧ vi = .int .i64 0 ∧ wr2 = w3) (fun _ _ _ => 0)
        case atStart => exact ⟨rfl, rfl, rfl⟩
        case round =>
          obtain ⟨rfl, rfl, rfl⟩ := hrel
          go_wp2
          exact ⟨⟨j + 1, n, z, g, z, by push_cast; rfl, rfl, rfl, HJ3.out, HQ3.out, HI.out.2.2.1, HST.out, .inr rfl, HZ2.out.1, HZ2.out.2, F3.out⟩, HMS.out⟩
      · have HZ := (isT_iff z).1 hn
        have HG := (isT_iff g).1 HI.out.2.2.1
        have ho0 := ovr_nn (f := g) (i := i) h1 (by have := HI0.out; omega)
        have ho1 := ovr_le (f := g) (i := i) h1 (by have := HI0.out; omega)
        have HNX := nxt_ok HG.1 h1 HZ.2 (show 0 ≤ i by have := HI0.out; omega)
        have hsf := st_fire HI.out.2.2.2.1 HI0.out h0 h1 (by have := HI.out.2.2.2.2.1; have := HI.out.2.2.2.2.2.1; omega)
        rw [show n + 1 + ovr g i z = n + (1 + ovr g i z) by omega] at hsf
        have HST := Lib.hid hsf.2
        have HG2 : Hid (isT (nxt g i z) = true) := (isT_iff _).2 ⟨HNX.1, HNX.2.1⟩
        have HZ2 : Hid (0 ≤ z ∧ z ≤ 1099511627776) := HZ
        have HQ3 := Lib.hid q3
        have HR3 := Lib.hid h3
        have e : MT = 1099511627776 := rfl
        have ho2 : ovr g i z ≤ 1099511627776 := by omega
        generalize ovr g i z = o at HST HR3 ho0 ho2
        clear hn hc h0 h1 h3 q3 HR HZ HG ho1 HNX hsf e
        go_wp2
        go_loopw [7, 61] (fun v7 vi wr2 => ∃ m : Nat, vi = .int .i64 m ∧ m ≤ 1 ∧ v7 = .int .i64 (if m = 0 then n else n + (1 + o)) ∧ Hid (Fr No w3 wr2)) (fun _ vi _ => 1 - (intOf vi).toNat)
        case atStart => exact ⟨0, rfl, by omega, rfl, Fr.refl _ _⟩
        case round =>
          obtain ⟨m, rfl, hm, rfl, HF4⟩ := hrel
          by_cases h0 : m = 0
          · subst h0
            have HR4 := Lib.hid (HR3.out _ HF4.out)
            clear hm
            go_wp2_with (first
              | ((with_reducible refine ld_gate ?_); refine wpList_load_mid rfl 57 (Operand.tmp 63) rfl g3 0 rfl [_, _, _, _, _, _, _] _ HR4.out Try.underlying57 rfl size_fired ?_; go_frame)
              | ((with_reducible refine st_gate ?_); refine wpList_store_row rfl 57 (Operand.tmp 14) (Operand.tmp 64) rfl wr.heap.size #[.int .i64 0, .int .i64 1, .int .i64 1, .int .i64 10, .int .i64 0, .int .i64 0, .int .i64 o] rfl rfl _ _ (RowAt.new wr _ _) size_fired rfl (by simp [Value.oneCell']) ?_; rw [World.setRow_alloc_new]))
            exact ⟨⟨1, rfl, Nat.le_refl _, rfl, HF4.out.trans (Fr.alloc _ _ _)⟩, by simp [intOf]⟩
          · obtain rfl : m = 1 := by omega
            clear hm h0
            go_wp2
            exact ⟨⟨j + 1, n + (1 + o), z, nxt g i z, z, by push_cast; rfl, rfl, rfl, HJ3.out, HQ3.out.no HF4.out, HG2.out, HST.out, .inr rfl, HZ2.out.1, HZ2.out.2, F3.out.trans HF4.out⟩, HMS.out⟩
    · have he : j = ts.length := by have := HI.out.1; omega
      clear hj
      have HW : Hid (n = want f i L) := HI.out.2.2.2.1.1
      obtain ⟨c0, c1, c2⟩ := HK.out wr HI.out.2.2.2.2.2.2.2
      subst he
      have HF1 : Hid (Fr No W wr) := F1.out.trans HI.out.2.2.2.2.2.2.2
      go_upto_region 20 with (fail)
      by_cases hfl : f ≤ L
      · have hw : IntKind.i64.wrap (L - f) = L - f := IntWalk.i64_in _ (by have := HLL.out; have := HF0.out; omega)
        have hn : (i == 0) = false := by have := HI0.out; simp; omega
        have hd : wrap64 ((L - f).tdiv i) = n - 1 := by
          have e : (L - f).tdiv i = n - 1 := by
            rw [Int.tdiv_eq_ediv_of_nonneg (by omega), HW.out]
            unfold want
            rw [if_pos hfl]; omega
          rw [e]
          exact IntWalk.wrap64_in _ (by omega)
        have HD := Lib.hid hd
        have hi0 : ¬ i = 0 := by have := HI0.out; omega
        clear hd
        go_upto_region 22 with (fail)
        have HE : wrap64 (wrap64 ((L - f).tdiv i) + 1) = n := by
          rw [HD.out, show n - 1 + 1 = n by omega]
          exact IntWalk.wrap64_in _ (by omega)
        rw [HE]
        clear HE
        go_wp2_with (go_at_call 9; refine (awake_any _).mono ?_; rintro e w5 ⟨rfl, f5⟩; have F5 : Hid (Fr No W w5) := HF1.out.trans f5; clear f5)
        go_ret
        exact ⟨rfl, F5.out⟩
      · have hn : n = 0 := by
          rw [HW.out]
          unfold want
          rw [if_neg hfl]
        have hfl2 : L < f := by omega
        subst hn
        clear hfl
        go_wp2_with (go_at_call 9; refine (awake_any _).mono ?_; rintro e w5 ⟨rfl, f5⟩; have F5 : Hid (Fr No W w5) := HF1.out.trans f5; clear f5)
        go_ret
        exact ⟨rfl, F5.out⟩
end Go.Proofs.Ytkjokmfhmppinaa
