/- Timers: TimersLeft's walk. -/
import Derived.Test.YtkjokmfhmppinaaPb
namespace Go.Proofs.Ytkjokmfhmppinaa
open Go.RowKit Go.Maps
set_option linter.unusedVariables false

theorem armed_pk {W : World} {a : Option Addr} {P : List Spc} (cap : Nat) (hP : SpIn W a P) : Calls Try.prog 21 #[.slice a P.length cap] W fun e w' => ∃ p k, e = .returned (.tuple #[.pointer p, .bool k]) ∧ (k = false ∨ k = true ∧ ∃ B b, p = some ⟨B, 0, none⟩ ∧ W.heap.size ≤ B ∧ W.heap.size ≤ b ∧ TQ w' B b (arL P P.length) 0 ∧ ∀ (j : Nat) (x : Spc), P[j]? = some x → spOk x.1 x.2.1 x.2.2 = true) ∧ Fr No W w' :=
  (armed_any cap hP).mono fun e w' h => by
    rcases h with ⟨rfl | ⟨B, b, rfl, h1, h2, h3, _, h4⟩, f⟩
    · exact ⟨_, _, rfl, .inl rfl, f⟩
    · exact ⟨_, _, rfl, .inr ⟨rfl, B, b, rfl, h1, h2, h3, h4⟩, f⟩
set_option maxRecDepth 100000 in
set_option maxHeartbeats 8000000 in
theorem left_walk {W : World} {a : Option Addr} {P : List Spc} (cap : Nat) (now : Int) (hP : SpIn W a P) : Calls Try.prog 6 #[.slice a P.length cap, .int .i64 now] W fun e w' => e = .returned (.bool true) ∧ Fr No W w' := by
  have HA := Lib.hid (armed_pk cap hP)
  clear hP
  have HLE : Hid (∀ n : Nat, n ≤ 12 → P.length = n → n ≤ 12) := fun n h _ => h
  have HP := Lib.hid (rfl : P.length = P.length)
  go_enter Try.func6, Try.ntmps6
  go_upto_region 2 with (go_at_call 21; refine HA.out.mono ?_; rintro e w1 ⟨p, k, rfl, hk, f1⟩; have HK := Lib.hid hk; have F1 := Lib.hid f1; clear hk f1)
  by_cases hl : 12 < P.length
  · have hl1 : (12 : Int) < P.length := by omega
    clear hl
    go_wp2_with (go_at_call 9; refine (awake_any _).mono ?_; rintro e w5 ⟨rfl, f5⟩; have F5 : Hid (Fr No W w5) := F1.out.trans f5; clear f5)
    go_ret
    exact ⟨rfl, F5.out⟩
  have hl1 : decide ((12 : Int) < P.length) = false := by simp; omega
  have HL : Hid (P.length ≤ 12) := by show _ ≤ _; omega
  clear hl
  rcases HK.out with rfl | ⟨rfl, B, b, rfl, hB, hb, q, hok⟩
  · go_wp2_with (go_at_call 9; refine (awake_any _).mono ?_; rintro e w5 ⟨rfl, f5⟩; have F5 : Hid (Fr No W w5) := F1.out.trans f5; clear f5)
    go_ret
    exact ⟨rfl, F5.out⟩
  have HBB : Hid (W.heap.size ≤ B ∧ W.heap.size ≤ b) := ⟨hB, hb⟩
  have HQ1 := Lib.hid q
  have HSP := Lib.hid (ar_spi hok)
  clear hB hb q hok HK
  by_cases hn : isT now = true
  · have HX := Lib.hid (expire_left HQ1.out HSP.out now hn (by rw [isT_iff] at hn; exact hn.1) (fun n h => sortOK_small (by rw [ar_len] at h; exact Nat.le_trans h HL.out)))
    have HNT := Lib.hid hn
    clear hn
    go_upto_region 7 with (go_at_call 23; refine HX.out.mono ?_; rintro e w2 ⟨a2, k2, cap2, l2, rfl, q2, s2, n2, g2, f2⟩; have HQ2 := Lib.hid q2; have HS2 := Lib.hid s2; have HN2 := Lib.hid n2; have HG2 := Lib.hid g2; have F2 : Hid (Fr No W w2) := F1.out.over f2 (fun k e => .inr (by rcases e with rfl | rfl; exact HBB.out.1; exact HBB.out.2)); clear q2 s2 n2 g2 f2)
    have HNX := Lib.hid (next_ok HQ2.out HS2.out)
    have hsv : (nx l2).isSome = false ∨ (nx l2).isSome = true ∧ now < nxV l2 := by
      rcases HN2.out with h | h
      · left; rw [h]; rfl
      · cases hx : nx l2 with
        | none => left; rfl
        | some m => right; exact ⟨rfl, h⟩
    generalize (nx l2).isSome = s at HNX hsv
    have HN3 : Hid (nx l2 = none ∨ now < nxV l2) := HN2.out
    generalize nxV l2 = v at HNX hsv
    clear HX HN2
    have HSV := Lib.hid hsv
    clear hsv
    go_upto_region 8 with (go_at_call 13; refine HNX.out.mono ?_; rintro e w3 ⟨rfl, f3⟩; have F3 : Hid (Fr No W w3) := F2.out.trans f3; have HQ3 : Hid (TQ w3 B b l2 now) := HQ2.out.no f3; clear f3)
    have hvs : ∀ z : Bool, s = z → (z = false ∨ decide (v ≤ now) = false) := fun z e => by
      rcases HSV.out with h | ⟨h1, h2⟩
      · exact .inl (e.symm.trans h)
      · right; simp; omega
    cases s <;> (
      have hv1 := hvs _ rfl
      simp only [Bool.true_eq_false, false_or, true_or] at hv1
      clear hvs HSV
      go_wp2
      go_loopw [58] (fun vi wr => ∃ i : Nat, vi = .int .i64 i ∧ Hid (i ≤ P.length ∧ TQ wr B b l2 now ∧ Fr No W wr)) (fun vi _ => P.length - (intOf vi).toNat)
      case atStart => exact ⟨0, rfl, Nat.zero_le _, HQ3.out, F3.out⟩
      case round =>
        obtain ⟨i, rfl, HI⟩ := hrel
        have i0 : (0 : Int) ≤ i := by omega
        have i2 : (i : Int) ≤ 12 := by have := HI.out.1; have := HL.out; omega
        by_cases hi : i < P.length
        · have i1 : (i : Int) < P.length := by omega
          have HMS : Hid (P.length - (intOf (Value.int IntKind.i64 ((i : Int) + 1))).toNat < P.length - (intOf (Value.int IntKind.i64 (i : Int))).toNat) := by
            show _ < _
            simp only [intOf]
            omega
          have HI3 : Hid (i + 1 ≤ P.length) := hi
          obtain ⟨t, hgt, ht⟩ := HG2.out i _ (ar_get HQ1.out hi)
          have HGT := Lib.hid (get_some HI.out.2.1 (isW_nat (n := i) (by omega)) hgt)
          unfold spOf spV at HGT
          generalize t.f = f at HGT ht
          generalize t.i = iv at HGT
          generalize t.t = tt at HGT
          clear hgt hi
          have HT := Lib.hid ht
          clear ht
          go_upto_region 14 with (first
            | ((with_reducible refine st_gate ?_); refine wpList_store_row rfl 31 (Operand.tmp 12) (Operand.tmp 65) rfl w4.heap.size sz rfl rfl _ #[.int .i64 f, .int .i64 iv, .int .i64 tt] (RowAt.new w4 _ _) size_spec rfl (by simp [Value.oneCell']) ?_; rw [World.setRow_alloc_new])
            | (go_at_call 22; refine HGT.out.mono ?_; rintro e w4 ⟨rfl, f4⟩; have F4 := Lib.hid f4; clear f4))
          have F5 : Hid (Fr No wr (w4.alloc (.cells #[.int .i64 f, .int .i64 iv, .int .i64 tt] 31))) := F4.out.trans (Fr.alloc _ _ _)
          have HZ := Lib.hid (RowAt.new w4 31 #[.int .i64 f, .int .i64 iv, .int .i64 tt])
          generalize w4.alloc _ = w5 at F5 HZ ⊢
          generalize w4.heap.size = Z at HZ ⊢
          have c0 : w5.cell? ⟨Z, 0, none⟩ = some (.int .i64 f) := HZ.out.cell 0
          have hfin : Hid (Fr No W w5) := HI.out.2.2.trans F5.out
          have hq5 : Hid (TQ w5 B b l2 now) := HI.out.2.1.no F5.out
          by_cases hk : k2 = 0
          · subst hk
            go_wp2
            exact ⟨⟨i + 1, by push_cast; rfl, HI3.out, hq5.out, hfin.out⟩, HMS.out⟩
          have hk1 : (0 : Int) < k2 := by omega
          clear hk
          by_cases hf : f = 0
          · subst hf
            go_wp2
            exact ⟨⟨i + 1, by push_cast; rfl, HI3.out, hq5.out, hfin.out⟩, HMS.out⟩
          have hf1 : (f != 0) = true := by simpa using hf
          have hf2 : (f == 0) = false := by simpa using hf
          have hf3 : decide (f ≤ now) = false := by
            have := HT.out
            simp; omega
          clear hf
          go_wp2
          exact ⟨⟨i + 1, by push_cast; rfl, HI3.out, hq5.out, hfin.out⟩, HMS.out⟩
        · have he : i = P.length := by have := HI.out.1; omega
          subst he
          have HX2 := Lib.hid (expire_quiet HI.out.2.1 HS2.out now HNT.out (Int.le_refl _) HN3.out)
          clear hi
          go_wp2_with (first
            | (go_at_call 23; refine HX2.out.mono ?_; rintro e w6 ⟨rfl, q6, f6⟩; have F6 : Hid (Fr No W w6) := HI.out.2.2.over f6 (fun k e => .inr (by rw [e]; exact HBB.out.1)); clear q6 f6)
            | (go_at_call 9; refine (awake_any _).mono ?_; rintro e w7 ⟨rfl, f7⟩; have F7 : Hid (Fr No W w7) := F6.out.trans f7; clear f7))
          go_ret
          exact ⟨rfl, F7.out⟩)
  · have hn' : isT now = false := by simpa using hn
    have HX := Lib.hid (expire_range HQ1.out now hn')
    have h2 : now < 0 ∨ 1099511627776 < now := by
      rw [isT_iff] at hn
      have e : MT = 1099511627776 := rfl
      omega
    clear hn hn'
    by_cases h0 : now < 0
    · clear h2
      go_wp2_with (first
        | (go_at_call 23; refine HX.out.mono ?_; rintro e w2 ⟨rfl, f2⟩; have F2 : Hid (Fr No W w2) := F1.out.trans f2; clear f2)
        | (go_at_call 9; refine (awake_any _).mono ?_; rintro e w7 ⟨rfl, f7⟩; have F7 : Hid (Fr No W w7) := F2.out.trans f7; clear f7))
      go_ret
      exact ⟨rfl, F7.out⟩
    · have h1 : 1099511627776 < now := h2.resolve_left h0
      have h3 : decide (now < 0) = false := by simpa using h0
      clear h2 h0
      go_wp2_with (first
        | (go_at_call 23; refine HX.out.mono ?_; rintro e w2 ⟨rfl, f2⟩; have F2 : Hid (Fr No W w2) := F1.out.trans f2; clear f2)
        | (go_at_call 9; refine (awake_any _).mono ?_; rintro e w7 ⟨rfl, f7⟩; have F7 : Hid (Fr No W w7) := F2.out.trans f7; clear f7))
      go_ret
      exact ⟨rfl, F7.out⟩
end Go.Proofs.Ytkjokmfhmppinaa
