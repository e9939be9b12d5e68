/- Timers: TimersDeadlines' walk. -/
import Derived.Test.YtkjokmfhmppinaaPd
import Derived.Laws.MakeOwn
namespace Go.Proofs.Ytkjokmfhmppinaa
open Go.RowKit Go.Maps Go.Deep
set_option linter.unusedVariables false

theorem info_spec : (Try.prog.info? 31).map (fun i => (i.zero, i.size, i.bytes)) = some (some (.agg #[.int .i64 0, .int .i64 0, .int .i64 0]), 3, 24) := by kernel_rfl
theorem make_specs (n : Nat) (hn : n ≤ 65536) (w : World) : (Instr.makeSlice 48 (.int .i64 (n : Int)) (.int .i64 (n : Int))).run Try.prog w = .ok (.slice (some ⟨w.heap.size, 0, none⟩) n n) (w.alloc (.cells (madeCells #[.int .i64 0, .int .i64 0, .int .i64 0] (n * 3)) 31)) := by
  obtain ⟨i, h1, h2, h3, h4⟩ := info_parts info_spec
  have := run_make (P := Try.prog) w 48 31 i _ Try.underlying48 h1 h2 .i64 .i64 (n : Int) (n : Int) (by omega) (by omega) (by rw [h4]; omega) (by omega)
  rw [h3] at this
  simp at this
  exact this
/-- Block R holds the specifications of the first k timers. -/
def DueAt (W : World) (R n : Nat) (l : TS) (k : Nat) : Prop := (∃ cs, RowAt W R 31 cs ∧ cs.size = n * 3) ∧ ∀ i t, i < k → get l (i : Int) = some t → W.rangeAt R (i * 3) [.int .i64 t.f, .int .i64 t.i, .int .i64 t.t]
theorem DueAt.fr {W W' : World} {R n k : Nat} {l : TS} {S : Nat → Prop} (h : DueAt W R n l k) (hf : Fr S W W') (hS : ¬ S R) : DueAt W' R n l k := by
  obtain ⟨⟨cs, h1, h2⟩, h3⟩ := h
  exact ⟨⟨cs, h1.fr hf hS, h2⟩, fun i t hi hg j v hv => (World.cell?_of_block (hf.block R h1.lt hS)).trans (h3 i t hi hg j v hv)⟩
theorem DueAt.there {W : World} {R n k : Nat} {l : TS} (h : DueAt W R n l k) {i : Nat} (hi : i < n) : W.there R (i * 3) 3 := by
  obtain ⟨⟨cs, h1, h2⟩, h3⟩ := h
  intro j hj
  have hlt : i * 3 + j < cs.size := by omega
  exact ⟨by rw [h1.cell, Array.getElem?_eq_getElem hlt]; rfl, h1.frozen _⟩
theorem DueAt.step {W : World} {R n k : Nat} {l : TS} (h : DueAt W R n l k) (hk : k < n) {t : Tm} (hg : get l (k : Int) = some t) : DueAt (W.setCells R (k * 3) [.int .i64 t.f, .int .i64 t.i, .int .i64 t.t]) R n l (k + 1) := by
  have ht := h.there hk
  obtain ⟨⟨cs, h1, h2⟩, h3⟩ := h
  refine ⟨⟨_, ((h1.set _ _).set _ _).set _ _, by simp [h2]⟩, fun i u hi hu => ?_⟩
  by_cases e : i = k
  · subst e
    rw [hg] at hu; cases hu
    exact World.rangeAt_setCells_same W R (i * 3) _ ht
  · exact World.rangeAt_setCells_apart (h3 i u (by omega) hu) R (k * 3) _ (.inr (.inl (by show i * 3 + 3 ≤ k * 3; omega)))
theorem fr_setCells {S : Nat → Prop} (W : World) (R o : Nat) (a b c : Value) (h : S R) : Fr S W (W.setCells R o [a, b, c]) := ((Fr.set W R o a h).trans (Fr.set _ R (o + 1) b h)).trans (Fr.set _ R (o + 1 + 1) c h)
theorem flat7 (now : Int) : ∀ (fs : List (Int × Tm)) (j r : Nat) (p : Int × Tm), fs[j]? = some p → r < 7 → (fs.flatMap (fe now))[j * 7 + r]? = (fe now p)[r]?
  | q :: fs, 0, r, p, h, hr => by
    cases h
    rw [List.flatMap_cons, Nat.zero_mul, Nat.zero_add, List.getElem?_append_left (by exact hr)]
  | q :: fs, j + 1, r, p, h, hr => by
    rw [List.flatMap_cons, List.getElem?_append_right (by show 7 ≤ _; omega)]
    have : (j + 1) * 7 + r - (fe now q).length = j * 7 + r := by show (j + 1) * 7 + r - 7 = _; omega
    rw [this]
    exact flat7 now fs j r p h hr
/-- The timers are the numbers below n. -/
def KeysN (l : TS) (n : Nat) : Prop := (∀ j : Nat, j < n → ∃ t, get l (j : Int) = some t) ∧ ∀ x t, get l x = some t → ∃ j : Nat, j < n ∧ x = j
theorem KeysN.fire {l : TS} {n : Nat} (h : KeysN l n) {now : Int} {fs : List (Int × Tm)} (hs : SortedT l) (hfa : FA l now fs) : KeysN (fireL now fs l) n :=
  ⟨fun j hj => by obtain ⟨t, ht⟩ := h.1 j hj; exact ⟨_, fire_get hs hfa ht⟩, fun x t hg => by obtain ⟨u, hu, _⟩ := fire_of hs hfa hg; exact h.2 x u hu⟩
theorem KeysN.start {W : World} {B b : Nat} {P : List Spc} {n : Nat} {c : Int} (h : TQ W B b (arL P n) c) : KeysN (arL P n) n :=
  ⟨fun j hj => ⟨_, ar_get h hj⟩, fun x t hg => by obtain ⟨j, hj, e⟩ := ar_mem (get_mem hg); cases e; exact ⟨j, hj, rfl⟩⟩
/-- What holds between two expiries. -/
def DI (W0 w : World) (B b n : Nat) (l : TS) (c : Int) : Prop := TQ w B b l c ∧ SpI l ∧ KeysN l n ∧ 0 ≤ c ∧ (nx l = none ∨ c ≤ nxV l) ∧ Fr No W0 w
/-- Of a timer that fires at the time that Next returned. -/
theorem fs_facts {l : TS} {now : Int} {fs : List (Int × Tm)} {n : Nat} (hs : SortedT l) (hsp : SpI l) (hk : KeysN l n) (hnx : nx l = some now) (hfa : FA l now fs) {p : Int × Tm} (hp : p ∈ fs) : ∃ j : Nat, j < n ∧ p.1 = j ∧ get l (j : Int) = some p.2 ∧ p.2.f ≠ 0 ∧ p.2.f ≤ now ∧ now ≤ p.2.f + p.2.t ∧ 0 ≤ p.2.f ∧ p.2.f ≤ MT ∧ 0 ≤ p.2.t ∧ p.2.t ≤ MT := by
  obtain ⟨h1, h2, h3⟩ := (hfa.2 p.1 p.2).1 hp
  obtain ⟨j, hj, e⟩ := hk.2 _ _ h1
  obtain ⟨d1, d2, d3⟩ := hsp.dl h1
  have := (nx_some hnx).2 (p.1, p.2) (get_mem h1) h2
  exact ⟨j, hj, e, e ▸ h1, h2, h3, this, d1.1, d1.2, d3.1, d3.2⟩
theorem fs_ne {l : TS} {now : Int} {fs : List (Int × Tm)} (hs : SortedT l) (hsp : SpI l) (hnx : nx l = some now) (hfa : FA l now fs) : fs ≠ [] := fun e0 => by
  obtain ⟨⟨p, hp, h1, h2⟩, _⟩ := nx_some hnx
  have hg := get_of_mem (x := p.1) (t := p.2) hs hp
  have d := (hsp.dl hg).2.2
  have := (hfa.2 p.1 p.2).2 ⟨hg, h1, by unfold dl at h2; omega⟩
  rw [e0] at this; cases this
theorem fireL_len (now : Int) : ∀ (pre : List (Int × Tm)) (l : TS), SortedT l → (∀ p ∈ pre, ∃ u, get l p.1 = some u) → (fireL now pre l).length = l.length
  | [], _, _, _ => rfl
  | p :: r, l, h, hx => by
    obtain ⟨u, hu⟩ := hx p (by simp)
    show (fireL now r (ins p.1 (updT now p.2) l)).length = _
    rw [fireL_len now r _ (sorted_ins h) (fun q hq => ?_), len_ins_old h hu]
    obtain ⟨z, hz⟩ := hx q (by simp [hq])
    rw [get_ins _ _ _ _ h]
    by_cases e : p.1 = q.1
    · rw [if_pos e]; exact ⟨_, rfl⟩
    · rw [if_neg e]; exact ⟨z, hz⟩
theorem own_len {W : World} {lo size n : Nat} {t : TypeId} {v : Value} {xs : List Value} (h : W.ownsRow lo t size v n xs) : n ≤ maxLen := by
  rcases h.2 with ⟨_, h0⟩ | ⟨g, cap, cur, _, _, _, h1, h2, _⟩
  · rw [h0]; exact Nat.zero_le _
  · exact Nat.le_trans h1 h2
theorem own_slice2 {W : World} {lo size n : Nat} {t : TypeId} {v : Value} {xs : List Value} (h : W.ownsRow lo t size v n xs) (hn : n ≠ 0) : ∃ g cap, v = .slice (some ⟨g, 0, none⟩) n cap := by
  rcases h.2 with ⟨_, h0⟩ | ⟨g, cap, cur, h1, _⟩
  · exact (hn h0).elim
  · exact ⟨g, cap, h1⟩
set_option maxRecDepth 100000 in
set_option maxHeartbeats 8000000 in
theorem deadlines_walk {W : World} {a : Option Addr} {P : List Spc} (cap : Nat) (hP : SpIn W a P) : Calls Try.prog 5 #[.slice a P.length cap] W fun e w' => e = .returned (.bool true) ∧ Fr No W w' := by
  have HA := Lib.hid (armed_pk cap hP)
  clear hP
  go_enter Try.func5, Try.ntmps5
  go_upto_region 2 with (go_at_call 21; refine HA.out.mono ?_; rintro e w1 ⟨p, k, rfl, hk, f1⟩; have HK := Lib.hid hk; have F1 := Lib.hid f1; clear hk f1)
  by_cases hl : 12 < P.length
  · have hl1 : (12 : Int) < P.length := by omega
    clear hl
    go_wp2_with (go_at_call 9; refine (awake_any _).mono ?_; rintro e w5 ⟨rfl, f5⟩; have F5 : Hid (Fr No W w5) := F1.out.trans f5; clear f5)
    go_ret
    exact ⟨rfl, F5.out⟩
  have hl1 : decide ((12 : Int) < P.length) = false := by simp; omega
  have HL : Hid (P.length ≤ 12) := by show _ ≤ _; omega
  clear hl
  rcases HK.out with rfl | ⟨rfl, B, b, rfl, hB, hb, q, hok⟩
  · go_wp2_with (go_at_call 9; refine (awake_any _).mono ?_; rintro e w5 ⟨rfl, f5⟩; have F5 : Hid (Fr No W w5) := F1.out.trans f5; clear f5)
    go_ret
    exact ⟨rfl, F5.out⟩
  have HBB : Hid (W.heap.size ≤ B ∧ W.heap.size ≤ b) := ⟨hB, hb⟩
  have HDI : Hid (∃ l c, l.length = P.length ∧ DI W w1 B b P.length l c) := ⟨_, 0, ar_len _ _, q, ar_spi hok, KeysN.start q, Int.le_refl _, by
    cases hx : nx (arL P P.length) with
    | none => exact .inl rfl
    | some m =>
      obtain ⟨⟨p, hp, h1, h2⟩, _⟩ := nx_some hx
      have hg := get_of_mem (x := p.1) (t := p.2) q.sorted hp
      obtain ⟨d1, d2, d3⟩ := (ar_spi hok).dl hg
      refine .inr ?_
      rw [nxV, hx]
      show 0 ≤ m
      unfold dl at h2
      omega, F1.out⟩
  clear hB hb q hok HK HA
  generalize hnn : P.length = n at HL HDI hl1
  have n12 : (n : Int) ≤ 12 := by have := HL.out; omega
  go_wp2
  go_loopw [27] (fun vi wr => ∃ i : Nat, vi = .int .i64 i ∧ Hid (i ≤ 30 ∧ ∃ l c, l.length = n ∧ DI W wr B b n l c)) (fun vi _ => 30 - (intOf vi).toNat)
  case atStart => exact ⟨0, rfl, by omega, HDI.out⟩
  case round =>
    obtain ⟨i, rfl, HI⟩ := hrel
    have i0 : (0 : Int) ≤ i := by omega
    by_cases hi : i < 30
    · have i1 : (i : Int) < 30 := by omega
      have HMS : Hid (30 - (intOf (Value.int IntKind.i64 ((i : Int) + 1))).toNat < 30 - (intOf (Value.int IntKind.i64 (i : Int))).toNat) := by
        show _ < _
        simp only [intOf]
        omega
      have HI3 : Hid (i + 1 ≤ 30) := hi
      obtain ⟨_, l, c, hll, hd⟩ := HI.out
      have HD := Lib.hid hd
      have HLL := Lib.hid hll
      have HNX := Lib.hid (next_ok hd.1 hd.2.1)
      clear hi hd hll
      cases hx : nx l with
      | none =>
        rw [hx] at HNX
        have HNX' : Hid (Calls Try.prog 13 #[.pointer (some ⟨B, 0, none⟩)] wr fun e w' => e = .returned (.tuple #[.int .i64 (nxV l), .bool false]) ∧ Fr No wr w') := HNX.out
        clear HNX hx
        generalize nxV l = v at HNX'
        go_wp2_with (first
          | (go_at_call 13; refine HNX'.out.mono ?_; rintro e w3 ⟨rfl, f3⟩; have F3 : Hid (Fr No W w3) := HD.out.2.2.2.2.2.trans f3; clear f3)
          | (go_at_call 9; refine (awake_any _).mono ?_; rintro e w5 ⟨rfl, f5⟩; have F5 : Hid (Fr No W w5) := F3.out.trans f5; clear f5))
        go_ret
        exact ⟨rfl, F5.out⟩
      | some v =>
        have hv : nxV l = v := by rw [nxV, hx]; rfl
        rw [hv, hx] at HNX
        have HNX' : Hid (Calls Try.prog 13 #[.pointer (some ⟨B, 0, none⟩)] wr fun e w' => e = .returned (.tuple #[.int .i64 v, .bool true]) ∧ Fr No wr w') := HNX.out
        clear HNX
        have HX := Lib.hid hx
        have HV := Lib.hid hv
        clear hx hv
        by_cases hm : 1099511627776 < v
        · go_wp2_with (first
            | (go_at_call 13; refine HNX'.out.mono ?_; rintro e w3 ⟨rfl, f3⟩; have F3 : Hid (Fr No W w3) := HD.out.2.2.2.2.2.trans f3; clear f3)
            | (go_at_call 9; refine (awake_any _).mono ?_; rintro e w5 ⟨rfl, f5⟩; have F5 : Hid (Fr No W w5) := F3.out.trans f5; clear f5))
          go_ret
          exact ⟨rfl, F5.out⟩
        have hm1 : decide (1099511627776 < v) = false := by simpa using hm
        have HVB : Hid (c ≤ v ∧ 0 ≤ v ∧ v ≤ 1099511627776) := by
          have h1 := HD.out.2.2.2.1
          have h2 := HD.out.2.2.2.2.1
          rw [HX.out, HV.out] at h2
          have h3 : c ≤ v := h2.resolve_left (by simp)
          show _ ∧ _
          omega
        have v0 := HVB.out.2.1
        have v1 := HVB.out.2.2
        clear hm
        have hmk := make_specs n (by omega)
        go_upto_region 9 with (go_at_call 13; refine HNX'.out.mono ?_; rintro e w3 ⟨rfl, f3⟩; have F3 := Lib.hid f3; clear f3)
        have HQ3 := Lib.hid (HD.out.1.no F3.out)
        have HF4 : Hid (Fr No w3 (w3.alloc (.cells (madeCells #[.int .i64 0, .int .i64 0, .int .i64 0] (n * 3)) 31))) := Fr.alloc _ _ _
        have HDU : Hid (DueAt (w3.alloc (.cells (madeCells #[.int .i64 0, .int .i64 0, .int .i64 0] (n * 3)) 31)) w3.heap.size n l 0) := ⟨⟨_, RowAt.new _ _ _, size_madeCells _ _⟩, fun i t h => absurd h (Nat.not_lt_zero _)⟩
        clear hmk hm1 hl1
        generalize w3.alloc _ = w4 at HF4 HDU ⊢
        have HRW : Hid (W.heap.size ≤ w3.heap.size ∧ B < w3.heap.size ∧ b < w3.heap.size) := ⟨Nat.le_trans HD.out.2.2.2.2.2.size F3.out.size, HQ3.out.row.lt, HQ3.out.map.lt⟩
        generalize w3.heap.size = R at HDU HRW ⊢
        have HQ4 := Lib.hid (HQ3.out.no HF4.out)
        have HF5 : Hid (Fr No W w4) := (HD.out.2.2.2.2.2.trans F3.out).trans HF4.out
        go_wp2
        go_loopw [45] (fun vj wr => ∃ j : Nat, vj = .int .i64 j ∧ Hid (j ≤ n ∧ DueAt wr R n l j ∧ TQ wr B b l c ∧ Fr No W wr)) (fun vj _ => n - (intOf vj).toNat)
        case atStart => exact ⟨0, rfl, Nat.zero_le _, HDU.out, HQ4.out, HF5.out⟩
        case round =>
          obtain ⟨j, rfl, HJ⟩ := hrel
          have j0 : (0 : Int) ≤ j := by omega
          have j2 : (j : Int) ≤ 12 := by have := HJ.out.1; omega
          by_cases hj : j < n
          · have j1 : (j : Int) < n := by omega
            have HMJ : Hid (n - (intOf (Value.int IntKind.i64 ((j : Int) + 1))).toNat < n - (intOf (Value.int IntKind.i64 (j : Int))).toNat) := by
              show _ < _
              simp only [intOf]
              omega
            have HJ3 : Hid (j + 1 ≤ n) := hj
            obtain ⟨t, hgt⟩ := HD.out.2.2.1.1 j hj
            have HGT := Lib.hid (get_some HJ.out.2.2.1 (isW_nat (n := j) (by omega)) hgt)
            unfold spOf spV at HGT
            have HTH : Hid (∀ w2, Fr No wr w2 → w2.there R (j * 3) 3) := fun w2 f => (HJ.out.2.1.fr f id).there hj
            have HST : Hid (∀ w2, Fr No wr w2 → DueAt (w2.setCells R (j * 3) [.int .i64 t.f, .int .i64 t.i, .int .i64 t.t]) R n l (j + 1)) := fun w2 f => (HJ.out.2.1.fr f id).step hj hgt
            generalize t.f = f at HGT HST
            generalize t.i = iv at HGT HST
            generalize t.t = tt at HGT HST
            clear hgt hj
            go_wp2_with (first
              | ((with_reducible refine st_gate ?_); refine wpList_store_mid rfl 31 (Operand.tmp 56) (Operand.tmp 54) rfl R (j * 3) #[.int .i64 f, .int .i64 iv, .int .i64 tt] rfl rfl (HTH.out _ F6.out) size_spec (by simp [Value.oneCell']) ?_)
              | (go_at_call 22; refine HGT.out.mono ?_; rintro e w6 ⟨rfl, f6⟩; have F6 := Lib.hid f6; clear f6))
            exact ⟨⟨j + 1, by push_cast; rfl, HJ3.out, HST.out _ F6.out, (HJ.out.2.2.1.no F6.out).fr (fr_setCells (S := fun k => k = R) _ _ _ _ _ _ rfl) (by have := HRW.out; omega) (by have := HRW.out; omega), (HJ.out.2.2.2.trans F6.out).over (fr_setCells (S := fun k => k = R) _ _ _ _ _ _ rfl) (fun k e => .inr (by rw [e]; exact HRW.out.1))⟩, HMJ.out⟩
          · have he : j = n := by have := HJ.out.1; omega
            subst he
            clear hj
            have HEX := Lib.hid (expire_fire HJ.out.2.2.1 HD.out.2.1 v ((isT_iff v).2 ⟨v0, v1⟩) HVB.out.1 (by rw [HX.out]; rfl) (by rw [HV.out]; exact Int.le_refl _) (fun n h => sortOK_small (by have := HLL.out; have := HL.out; omega)))
            go_upto_region 15 with (go_at_call 23; refine HEX.out.mono ?_; rintro e w6 ⟨v6, fs, rfl, hfa, hq, hown, hf⟩; have HFA := Lib.hid hfa; have HQ6 := Lib.hid hq; have HO6 := Lib.hid hown; have F6 := Lib.hid hf; clear hfa hq hown hf)
            have hne : fs.length ≠ 0 := fun e => fs_ne HD.out.1.sorted HD.out.2.1 HX.out HFA.out (List.length_eq_zero_iff.1 e)
            obtain ⟨g, capg, rfl⟩ := own_slice2 HO6.out hne
            have hne2 : ((fs.length : Int) == 0) = false := beq_eq_false_iff_ne.2 (by omega)
            have hlen : (fs.length : Int) ≤ 9223372036854775807 := by have := own_len HO6.out; unfold maxLen at this; omega
            have HF6 : Hid (Fr No W w6) := HJ.out.2.2.2.over F6.out (fun k e => .inr (by rcases e with rfl | rfl; exact HBB.out.1; exact HBB.out.2))
            have HDU6 : Hid (DueAt w6 R j l j) := HJ.out.2.1.fr F6.out (by have := HRW.out; omega)
            generalize hfl : fs.length = m at hne hne2 hlen HO6
            have HFL := Lib.hid hfl
            clear hfl hne HEX
            go_wp2
            go_loopw [73] (fun vk wr => ∃ k : Nat, vk = .int .i64 k ∧ Hid (k ≤ m ∧ Fr No w6 wr)) (fun vk _ => m - (intOf vk).toNat)
            case atStart => exact ⟨0, rfl, Nat.zero_le _, Fr.refl _ _⟩
            case round =>
              obtain ⟨k, rfl, HK7⟩ := hrel
              have k0 : (0 : Int) ≤ k := by omega
              have k2 : (k : Int) ≤ 9223372036854775807 := by have := HK7.out.1; omega
              by_cases hk : k < m
              · have k1 : (k : Int) < m := by omega
                have HMK : Hid (m - (intOf (Value.int IntKind.i64 ((k : Int) + 1))).toNat < m - (intOf (Value.int IntKind.i64 (k : Int))).toNat) := by
                  show _ < _
                  simp only [intOf]
                  omega
                have HK3 : Hid (k + 1 ≤ m) := hk
                have hkf : k < fs.length := by have := HFL.out; omega
                obtain ⟨y, q1, q2, q3, q4, q5, q6, q7, q8, q9, q10⟩ := fs_facts HD.out.1.sorted HD.out.2.1 HD.out.2.2.1 HX.out HFA.out (List.getElem_mem hkf)
                have hfk := List.getElem?_eq_getElem hkf
                have HRG : Hid (∀ w2, Fr No wr w2 → w2.rangeAt g (k * 7) (fe v fs[k])) := fun w2 f2 r u hu => by
                  have hr7 : r < 7 := (List.getElem?_eq_some_iff.1 hu).1
                  refine own_cells (own_fr2 (own_fr2 HO6.out HK7.out.2 (fun _ _ => id)) f2 (fun _ _ => id)) ?_
                  rw [flat7 v fs k r _ hfk hr7]; exact hu
                have HDR : Hid (∀ w2, Fr No wr w2 → w2.rangeAt R (y * 3) [.int .i64 (fs[k]).2.f, .int .i64 (fs[k]).2.i, .int .i64 (fs[k]).2.t]) := fun w2 f2 => ((HDU6.out.fr HK7.out.2 id).fr f2 id).2 y _ q1 q3
                unfold fe at HRG
                rw [q2] at HRG
                generalize fs[k] = p at HRG HDR q4 q5 q6 q7 q8 q9 q10
                obtain ⟨px, o, kd, cn, pr, cd, vl, f, iv, tt⟩ := p
                have y0 : (0 : Int) ≤ y := by omega
                have y1 : (y : Int) < j := by omega
                have f1 : (f == 0) = false := by simpa using q4
                have f2 : decide (v < f) = false := by simpa using q5
                have f3 : decide (f + tt < v) = false := by simpa using q6
                have e : MT = 1099511627776 := rfl
                have f4 : f ≤ 1099511627776 := by have : f ≤ MT := q8; omega
                have t4 : tt ≤ 1099511627776 := by have : tt ≤ MT := q10; omega
                have f0 : 0 ≤ f := q7
                have t0 : 0 ≤ tt := q9
                clear q1 q2 q3 q4 q5 q6 q7 q8 q9 q10 e hkf hfk hk
                go_upto_region 20 with (first
                  | ((with_reducible refine ld_gate ?_); refine wpList_load_mid rfl 57 (Operand.tmp 75) rfl g (k * 7) rfl [_, _, _, _, _, _, _] _ (HRG.out _ (Fr.refl _ _)) Try.underlying57 rfl size_fired ?_; go_frame)
                  | ((with_reducible refine st_gate ?_); refine wpList_store_row rfl 57 (Operand.tmp 12) (Operand.tmp 76) rfl wr.heap.size #[.int .i64 y, .int .i64 kd, .int .i64 cn, .int .i64 pr, .int .i64 cd, .int .i64 vl, .int .i64 (ovr f iv v)] rfl rfl _ _ (RowAt.new wr _ _) size_fired rfl (by simp [Value.oneCell']) ?_; rw [World.setRow_alloc_new]))
                have HG7 : Hid (Fr No wr (wr.alloc (.cells #[.int .i64 y, .int .i64 kd, .int .i64 cn, .int .i64 pr, .int .i64 cd, .int .i64 vl, .int .i64 (ovr f iv v)] 57))) := Fr.alloc _ _ _
                have HZ7 := Lib.hid (RowAt.new wr 57 #[.int .i64 y, .int .i64 kd, .int .i64 cn, .int .i64 pr, .int .i64 cd, .int .i64 vl, .int .i64 (ovr f iv v)])
                generalize wr.alloc _ = w7 at HG7 HZ7 ⊢
                generalize wr.heap.size = Z7 at HZ7 ⊢
                have c0 : w7.cell? ⟨Z7, 0, none⟩ = some (.int .i64 y) := HZ7.out.cell 0
                go_upto_region 21 with (first
                  | ((with_reducible refine ld_gate ?_); refine wpList_load_mid rfl 31 (Operand.tmp 80) rfl R (y * 3) rfl [_, _, _] _ (HDR.out _ HG7.out) Try.underlying31 rfl size_spec ?_; go_frame)
                  | ((with_reducible refine st_gate ?_); refine wpList_store_row rfl 31 (Operand.tmp 13) (Operand.tmp 81) rfl w7.heap.size #[.int .i64 f, .int .i64 iv, .int .i64 tt] rfl rfl _ _ (RowAt.new w7 _ _) size_spec rfl (by simp [Value.oneCell']) ?_; rw [World.setRow_alloc_new]))
                have HG8 : Hid (Fr No wr (w7.alloc (.cells #[.int .i64 f, .int .i64 iv, .int .i64 tt] 31))) := HG7.out.trans (Fr.alloc _ _ _)
                have HZ8 := Lib.hid (RowAt.new w7 31 #[.int .i64 f, .int .i64 iv, .int .i64 tt])
                clear c0
                generalize w7.alloc _ = w8 at HG8 HZ8 ⊢
                generalize w7.heap.size = Z8 at HZ8 ⊢
                have c0 : w8.cell? ⟨Z8, 0, none⟩ = some (.int .i64 f) := HZ8.out.cell 0
                have c2 : w8.cell? ⟨Z8, 2, none⟩ = some (.int .i64 tt) := HZ8.out.cell 2
                go_wp2
                exact ⟨⟨k + 1, by push_cast; rfl, HK3.out, HK7.out.2.trans HG8.out⟩, HMK.out⟩
              · have he : k = m := by have := HK7.out.1; omega
                clear hk
                subst he
                have HLN : Hid ((fireL v fs l).length = j) := by
                  show _ = _
                  rw [fireL_len v fs l HD.out.1.sorted (fun p hp => ⟨_, ((HFA.out.2 p.1 p.2).1 hp).1⟩)]; exact HLL.out
                go_wp2
                exact ⟨⟨i + 1, by push_cast; rfl, HI3.out, fireL v fs l, v, HLN.out, HQ6.out.no HK7.out.2, fire_spi HD.out.1.sorted HD.out.2.1 ((isT_iff v).2 ⟨v0, v1⟩) HFA.out, HD.out.2.2.1.fire HD.out.1.sorted HFA.out, v0, (late_nx HQ6.out.sorted (fire_spi HD.out.1.sorted HD.out.2.1 ((isT_iff v).2 ⟨v0, v1⟩) HFA.out) (fun x t hg => fire_late HD.out.1.sorted HD.out.2.1 ((isT_iff v).2 ⟨v0, v1⟩) HFA.out hg)).imp id (fun h => by omega), HF6.out.trans HK7.out.2⟩, HMS.out⟩
    · have he : i = 30 := by have := HI.out.1; omega
      subst he
      obtain ⟨_, l, c, hll, hd⟩ := HI.out
      have HD := Lib.hid hd
      clear hi hd hll
      go_wp2_with (go_at_call 9; refine (awake_any _).mono ?_; rintro e w5 ⟨rfl, f5⟩; have F5 : Hid (Fr No W w5) := HD.out.2.2.2.2.2.trans f5; clear f5)
      go_ret
      exact ⟨rfl, F5.out⟩
end Go.Proofs.Ytkjokmfhmppinaa
