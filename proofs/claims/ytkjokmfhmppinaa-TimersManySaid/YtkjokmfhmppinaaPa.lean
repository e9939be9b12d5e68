/- Timers: specifications that came in; the law's armed. -/
import Derived.Test.YtkjokmfhmppinaaOz
namespace Go.Proofs.Ytkjokmfhmppinaa
open Go.RowKit Go.Maps
set_option linter.unusedVariables false

abbrev Spc := Int × Int × Int
/-- How the specifications lie. -/
def SpAt (w : World) (b off : Nat) (P : List Spc) : Prop := b < w.heap.size ∧ ∀ i x, P[i]? = some x → w.rangeAt b (off + i * 3) [.int .i64 x.1, .int .i64 x.2.1, .int .i64 x.2.2]
def SpIn (w : World) (a : Option Addr) (P : List Spc) : Prop := P = [] ∨ ∃ b off, a = some ⟨b, off, none⟩ ∧ SpAt w b off P
theorem SpIn.get {w : World} {a : Option Addr} {P : List Spc} {i : Nat} (h : SpIn w a P) (hi : i < P.length) : ∃ b off x, a = some ⟨b, off, none⟩ ∧ P[i]? = some x ∧ ∀ w', Fr No w w' → w'.rangeAt b (off + i * 3) [.int .i64 x.1, .int .i64 x.2.1, .int .i64 x.2.2] := by
  have hx : P[i]? = some P[i] := List.getElem?_eq_getElem hi
  rcases h with h | ⟨b, off, rfl, hlt, h⟩
  · rw [h] at hi; cases hi
  · exact ⟨b, off, _, rfl, hx, fun w' f j v hv => (World.cell?_of_block (f.block b hlt id)).trans (h i _ hx j v hv)⟩
def mkT (x : Spc) : Tm := ⟨0, 1, 1, 10, 0, 0, x.1, x.2.1, x.2.2⟩
/-- The timers behind the first n rounds. -/
def arL (P : List Spc) (n : Nat) : TS := (List.range n).map fun (j : Nat) => ((j : Int), mkT (P.getD j (0, 0, 0)))
theorem ar_len (P : List Spc) (n : Nat) : (arL P n).length = n := by simp [arL]
theorem ar_succ (P : List Spc) (n : Nat) : arL P (n + 1) = arL P n ++ [((n : Int), mkT (P.getD n (0, 0, 0)))] := by simp [arL, List.range_succ]
theorem ar_mem {P : List Spc} {n : Nat} {p : Int × Tm} (h : p ∈ arL P n) : ∃ j : Nat, j < n ∧ p = ((j : Int), mkT (P.getD j (0, 0, 0))) := by
  obtain ⟨j, hj, rfl⟩ := List.mem_map.1 h
  exact ⟨j, List.mem_range.1 hj, rfl⟩
theorem ins_last {x : Int} {t : Tm} : ∀ {l : TS}, (∀ p ∈ l, p.1 < x) → ins x t l = l ++ [(x, t)]
  | [], _ => rfl
  | p :: r, h => by
    have h1 := h p (by simp)
    rw [ins, if_neg (by omega), if_neg (by omega), ins_last fun q hq => h q (by simp [hq])]; rfl
theorem ins_again {x : Int} {t u : Tm} : ∀ {l : TS}, (∀ p ∈ l, p.1 < x) → ins x t (l ++ [(x, u)]) = l ++ [(x, t)]
  | [], _ => by simp [ins]
  | p :: r, h => by
    have h1 := h p (by simp)
    rw [List.cons_append, ins, if_neg (by omega), if_neg (by omega), ins_again fun q hq => h q (by simp [hq])]; rfl
theorem get_last {x : Int} {u : Tm} : ∀ {l : TS}, (∀ p ∈ l, p.1 < x) → get (l ++ [(x, u)]) x = some u
  | [], _ => by simp [get]
  | p :: r, h => by
    have h1 := h p (by simp)
    rw [List.cons_append, get_cons, if_neg (by omega), get_last fun q hq => h q (by simp [hq])]
theorem ar_lt {P : List Spc} {n : Nat} : ∀ p ∈ arL P n, p.1 < (n : Int) := fun p hp => by
  obtain ⟨j, hj, rfl⟩ := ar_mem hp
  show (j : Int) < n
  omega
theorem lfFrom_seq (g : Nat → Tm) : ∀ n a, lfFrom a ((List.range' a n).map fun (j : Nat) => ((j : Int), g j)) = a + n
  | 0, a => rfl
  | n + 1, a => by
    rw [List.range'_succ, List.map_cons, lfFrom, if_pos rfl, lfFrom_seq g n (a + 1)]; omega
theorem ar_lf (P : List Spc) (n : Nat) : lf (arL P n) = n := by
  have := lfFrom_seq (fun j => mkT (P.getD j (0, 0, 0))) n 0
  rw [Nat.zero_add] at this
  rw [lf, arL, List.range_eq_range']
  exact this
/-- The timers behind Create in round n. -/
def arN (P : List Spc) (n : Nat) : TS := ins (n : Int) ⟨0, 1, 1, 10, 0, 0, 0, 0, 0⟩ (arL P n)
theorem arN_get (P : List Spc) (n : Nat) : get (arN P n) n = some ⟨0, 1, 1, 10, 0, 0, 0, 0, 0⟩ := by rw [arN, ins_last ar_lt, get_last ar_lt]
theorem arN_set (P : List Spc) (n : Nat) {x : Spc} (hx : P[n]? = some x) : ins (n : Int) (Tm.sp ⟨0, 1, 1, 10, 0, 0, 0, 0, 0⟩ x.1 x.2.1 x.2.2) (arN P n) = arL P (n + 1) := by
  rw [arN, ins_last ar_lt, ins_again ar_lt, ar_succ, List.getD_eq_getElem?_getD, hx]; rfl
theorem ar_get {W : World} {B b : Nat} {P : List Spc} {n : Nat} {c : Int} (h : TQ W B b (arL P n) c) {j : Nat} (hj : j < n) : get (arL P n) j = some (mkT (P.getD j (0, 0, 0))) :=
  get_of_mem h.sorted (List.mem_map.2 ⟨j, List.mem_range.2 hj, rfl⟩)
theorem ar_spi {P : List Spc} (h : ∀ (j : Nat) (x : Spc), P[j]? = some x → spOk x.1 x.2.1 x.2.2 = true) : SpI (arL P P.length) := fun p hp => by
  obtain ⟨j, hj, rfl⟩ := ar_mem hp
  have := h j P[j] (List.getElem?_eq_getElem hj)
  show spOk (P.getD j (0, 0, 0)).1 (P.getD j (0, 0, 0)).2.1 (P.getD j (0, 0, 0)).2.2 = true
  rw [List.getD_eq_getElem?_getD, List.getElem?_eq_getElem hj]
  exact this
/-- What armed leaves. -/
def ArE (W : World) (P : List Spc) (e : Ending) (w' : World) : Prop := e = .returned (.tuple #[.pointer none, .bool false]) ∨ ∃ B b, e = .returned (.tuple #[.pointer (some ⟨B, 0, none⟩), .bool true]) ∧ W.heap.size ≤ B ∧ W.heap.size ≤ b ∧ TQ w' B b (arL P P.length) 0 ∧ P.length ≤ 1000 ∧ ∀ (j : Nat) (x : Spc), P[j]? = some x → spOk x.1 x.2.1 x.2.2 = true
set_option maxRecDepth 100000 in
set_option maxHeartbeats 8000000 in
theorem armed_any {W : World} {a : Option Addr} {P : List Spc} (cap : Nat) (hP : SpIn W a P) : Calls Try.prog 21 #[.slice a P.length cap] W fun e w' => ArE W P e w' ∧ Fr No W w' := by
  have HN := Lib.hid (tnew_ok W)
  have HBW : Hid (∀ B b, W.heap.size + 1 = B → W.heap.size = b → W.heap.size ≤ B ∧ W.heap.size ≤ b) := fun B b h1 h2 => by omega
  generalize hB : W.heap.size + 1 = B at HN
  generalize hb : W.heap.size = b at HN
  have HB := Lib.hid hb
  replace HBW := Lib.hid (HBW.out B b hB hb)
  clear hB hb
  have HP := Lib.hid hP
  clear hP
  go_enter Try.func21, Try.ntmps21
  go_wp2_with (go_at_call 10; refine HN.out.mono ?_; rintro e w1 ⟨rfl, q1, f1⟩; have HQ1 := Lib.hid q1; have F1 := Lib.hid f1; clear q1 f1)
  go_loopw [14] (fun vi wr => ∃ i : Nat, vi = .int .i64 i ∧ Hid (i ≤ P.length ∧ i ≤ 1000 ∧ TQ wr B b (arL P i) 0 ∧ (∀ (j : Nat) (x : Spc), j < i → P[j]? = some x → spOk x.1 x.2.1 x.2.2 = true) ∧ Fr No W wr)) (fun vi _ => P.length - (intOf vi).toNat)
  case atStart => exact ⟨0, rfl, Nat.zero_le _, Nat.zero_le _, HQ1.out, fun j x hj => by omega, F1.out⟩
  case round =>
    obtain ⟨i, rfl, HI⟩ := hrel
    have i0 : (0 : Int) ≤ i := by omega
    have i2 : (i : Int) ≤ 1000 := by have := HI.out.2.1; omega
    by_cases hi : i < P.length
    · have i1 : (i : Int) < P.length := by omega
      obtain ⟨b0, off, x, rfl, hx, hr⟩ := HP.out.get hi
      have HX := Lib.hid hx
      have HR := Lib.hid (hr _ HI.out.2.2.2.2)
      have HMS : Hid (P.length - (intOf (Value.int IntKind.i64 ((i : Int) + 1))).toNat < P.length - (intOf (Value.int IntKind.i64 (i : Int))).toNat) := by
        show _ < _
        simp only [intOf]
        omega
      have HI3 := Lib.hid hi
      clear hx hr
      obtain ⟨f, iv, t⟩ := x
      have hck : ckN 0 1 1 10 0 = 0 := by decide
      have HFR : Hid (∀ w, Fr (fun k => k = b) wr w → Fr No W w) := fun w g => HI.out.2.2.2.2.over g (fun k e => .inr (by rw [e]; exact HBW.out.2))
      by_cases hk : i < 1000
      · have HCR : Hid (∀ w, Fr No wr w → Calls Try.prog 18 #[.pointer (some ⟨B, 0, none⟩), .int .i64 0, .agg #[.int .i64 1, .int .i64 1, .int .i64 10, .int .i64 0, .int .i64 0]] w fun e w' => e = .returned (.tuple #[.int .i64 (i : Nat), .int .i64 0]) ∧ TQ w' B b (arN P i) 0 ∧ Fr (fun k => k = b) w w') := fun w g => by
          have := create_ok (W := w) (HI.out.2.2.1.no g) 0 1 1 10 0 0 hck (by rw [ar_len]; exact hk)
          rw [ar_lf] at this
          exact this
        have HK1 : Hid (i + 1 ≤ 1000) := hk
        by_cases hs : spOk f iv t = true
        · have HSP : Hid (∀ w, TQ w B b (arN P i) 0 → Calls Try.prog 24 #[.pointer (some ⟨B, 0, none⟩), .int .i64 (i : Int), .agg #[.int .i64 f, .int .i64 iv, .int .i64 t]] w fun e w' => e = .returned (.tuple #[.agg #[.int .i64 0, .int .i64 0, .int .i64 0], .int .i64 0]) ∧ TQ w' B b (arL P (i + 1)) 0 ∧ Fr (fun k => k = b) w w') := fun w q => by
            have := set_ok q (isW_nat (n := i) (by omega)) (arN_get P i) f iv t hs
            rw [arN_set P i HX.out] at this
            exact this
          have HSO : Hid (∀ (j : Nat) (x : Spc), j < i + 1 → P[j]? = some x → spOk x.1 x.2.1 x.2.2 = true) := fun j x hj hx => by
            by_cases e : j = i
            · subst e; rw [HX.out] at hx; cases hx; exact hs
            · exact HI.out.2.2.2.1 j x (by omega) hx
          clear hk hs hi hck
          have HX0 : Hid (∀ w2, Fr (fun k => k = b) (wr.alloc (.cells #[.int .i64 f, .int .i64 iv, .int .i64 t] 31)) w2 → RowAt w2 wr.heap.size 31 #[.int .i64 f, .int .i64 iv, .int .i64 t]) := fun w2 g => (RowAt.new wr _ _).fr g (by have := HI.out.2.2.1.map.lt; omega)
          go_wp2_with (first
            | ((with_reducible refine ld_gate ?_); refine wpList_load_mid rfl 31 (Operand.tmp 16) rfl b0 (off + i * 3) rfl [_, _, _] _ HR.out Try.underlying31 rfl size_spec ?_; go_frame)
            | ((with_reducible refine st_gate ?_); refine wpList_store_row rfl 31 (Operand.tmp 6) (Operand.tmp 17) rfl wr.heap.size #[.int .i64 f, .int .i64 iv, .int .i64 t] rfl rfl _ _ (RowAt.new wr _ _) size_spec rfl (by simp [Value.oneCell']) ?_; rw [World.setRow_alloc_new])
            | (go_at_call 25; refine (pulse_ok _).mono ?_; unfold evV; rintro e w3 ⟨rfl, f3⟩; have F3 := Lib.hid f3; clear f3)
            | (go_at_call 18; refine (HCR.out _ ((Fr.alloc No _ _).trans F3.out)).mono ?_; rintro e w4 ⟨rfl, q4, f4⟩; have HQ4 := Lib.hid q4; have F4 : Hid (Fr (fun k => k = b) (wr.alloc (.cells #[.int .i64 f, .int .i64 iv, .int .i64 t] 31)) w4) := F3.out.any.trans f4; clear q4 f4)
            | ((with_reducible refine ld_gate ?_); refine wpList_load_mid rfl 31 (Operand.tmp 6) rfl wr.heap.size 0 rfl [_, _, _] _ (HX0.out _ F4.out).range Try.underlying31 rfl size_spec ?_; go_frame)
            | (go_at_call 24; refine (HSP.out _ HQ4.out).mono ?_; rintro e w5 ⟨rfl, q5, f5⟩; have HQ5 := Lib.hid q5; have F5 := Lib.hid f5; clear q5 f5)
            | ((with_reducible refine st_gate ?_); refine wpList_store_row rfl 31 (Operand.tmp 9) (Operand.tmp 29) rfl w5.heap.size sz rfl rfl _ sz (RowAt.new w5 _ _) size_spec rfl (by simp [Value.oneCell']) ?_; rw [World.setRow_alloc_new]))
          have hfa : Fr (fun k => k = b) wr (w5.alloc (.cells sz 31)) := (((Fr.alloc _ _ _).trans F4.out).trans F5.out).trans (Fr.alloc _ _ _)
          exact ⟨⟨i + 1, by push_cast; rfl, HI3.out, HK1.out, HQ5.out.no (Fr.alloc _ _ _), HSO.out, HFR.out _ hfa⟩, HMS.out⟩
        · have hs' : spOk f iv t = false := by simpa using hs
          have HSP : Hid (∀ w, TQ w B b (arN P i) 0 → Calls Try.prog 24 #[.pointer (some ⟨B, 0, none⟩), .int .i64 (i : Int), .agg #[.int .i64 f, .int .i64 iv, .int .i64 t]] w fun e w' => e = .returned (.tuple #[.agg #[.int .i64 0, .int .i64 0, .int .i64 0], .int .i64 34]) ∧ True ∧ Fr (fun k => k = b) w w') := fun w q => (set_range q (isW_nat (n := i) (by omega)) (arN_get P i) f iv t hs').mono fun e w' h => ⟨h.1, trivial, h.2.any⟩
          clear hk hs hs' hi hck
          have HX0 : Hid (∀ w2, Fr (fun k => k = b) (wr.alloc (.cells #[.int .i64 f, .int .i64 iv, .int .i64 t] 31)) w2 → RowAt w2 wr.heap.size 31 #[.int .i64 f, .int .i64 iv, .int .i64 t]) := fun w2 g => (RowAt.new wr _ _).fr g (by have := HI.out.2.2.1.map.lt; omega)
          go_wp2_with (first
            | ((with_reducible refine ld_gate ?_); refine wpList_load_mid rfl 31 (Operand.tmp 16) rfl b0 (off + i * 3) rfl [_, _, _] _ HR.out Try.underlying31 rfl size_spec ?_; go_frame)
            | ((with_reducible refine st_gate ?_); refine wpList_store_row rfl 31 (Operand.tmp 6) (Operand.tmp 17) rfl wr.heap.size #[.int .i64 f, .int .i64 iv, .int .i64 t] rfl rfl _ _ (RowAt.new wr _ _) size_spec rfl (by simp [Value.oneCell']) ?_; rw [World.setRow_alloc_new])
            | (go_at_call 25; refine (pulse_ok _).mono ?_; unfold evV; rintro e w3 ⟨rfl, f3⟩; have F3 := Lib.hid f3; clear f3)
            | (go_at_call 18; refine (HCR.out _ ((Fr.alloc No _ _).trans F3.out)).mono ?_; rintro e w4 ⟨rfl, q4, f4⟩; have HQ4 := Lib.hid q4; have F4 : Hid (Fr (fun k => k = b) (wr.alloc (.cells #[.int .i64 f, .int .i64 iv, .int .i64 t] 31)) w4) := F3.out.any.trans f4; clear q4 f4)
            | ((with_reducible refine ld_gate ?_); refine wpList_load_mid rfl 31 (Operand.tmp 6) rfl wr.heap.size 0 rfl [_, _, _] _ (HX0.out _ F4.out).range Try.underlying31 rfl size_spec ?_; go_frame)
            | (go_at_call 24; refine (HSP.out _ HQ4.out).mono ?_; rintro e w5 ⟨rfl, q5, f5⟩; have HQ5 := Lib.hid q5; have F5 := Lib.hid f5; clear q5 f5)
            | ((with_reducible refine st_gate ?_); refine wpList_store_row rfl 31 (Operand.tmp 9) (Operand.tmp 29) rfl w5.heap.size sz rfl rfl _ sz (RowAt.new w5 _ _) size_spec rfl (by simp [Value.oneCell']) ?_; rw [World.setRow_alloc_new]))
          have hfa : Fr (fun k => k = b) wr (w5.alloc (.cells sz 31)) := (((Fr.alloc _ _ _).trans F4.out).trans F5.out).trans (Fr.alloc _ _ _)
          go_ret2
          exact ⟨.inl rfl, HFR.out _ hfa⟩
      · have hk2 : i = 1000 := by have := HI.out.2.1; omega
        have HCR : Hid (∀ w, Fr No wr w → Calls Try.prog 18 #[.pointer (some ⟨B, 0, none⟩), .int .i64 0, .agg #[.int .i64 1, .int .i64 1, .int .i64 10, .int .i64 0, .int .i64 0]] w fun e w' => e = .returned (.tuple #[.int .i64 0, .int .i64 18]) ∧ TQ w' B b (arL P i) 0 ∧ Fr (fun k => k = b) w w') := fun w g =>
          (create_full (W := w) (HI.out.2.2.1.no g) 0 1 1 10 0 0 hck (by rw [ar_len]; exact hk2)).mono fun e w' h => ⟨h.1, (HI.out.2.2.1.no g).no h.2, h.2.any⟩
        have HSP : Hid (∀ w, TQ w B b (arL P i) 0 → Calls Try.prog 24 #[.pointer (some ⟨B, 0, none⟩), .int .i64 0, .agg #[.int .i64 f, .int .i64 iv, .int .i64 t]] w fun e w' => (∃ r0 r1 r2 z, e = .returned (.tuple #[.agg #[.int .i64 r0, .int .i64 r1, .int .i64 r2], .int .i64 z])) ∧ True ∧ Fr (fun k => k = b) w w') := fun w q => by
          have hg := ar_get q (j := 0) (by omega)
          by_cases hs : spOk f iv t = true
          · exact (set_ok q (isW_nat (n := 0) (by omega)) hg f iv t hs).mono fun e w' h => ⟨⟨_, _, _, _, h.1⟩, trivial, h.2.2⟩
          · have hs' : spOk f iv t = false := by simpa using hs
            exact (set_range q (isW_nat (n := 0) (by omega)) hg f iv t hs').mono fun e w' h => ⟨⟨_, _, _, _, h.1⟩, trivial, h.2.any⟩
        clear hk hk2 hi hck
        have HX0 : Hid (∀ w2, Fr (fun k => k = b) (wr.alloc (.cells #[.int .i64 f, .int .i64 iv, .int .i64 t] 31)) w2 → RowAt w2 wr.heap.size 31 #[.int .i64 f, .int .i64 iv, .int .i64 t]) := fun w2 g => (RowAt.new wr _ _).fr g (by have := HI.out.2.2.1.map.lt; omega)
        go_wp2_with (first
          | ((with_reducible refine ld_gate ?_); refine wpList_load_mid rfl 31 (Operand.tmp 16) rfl b0 (off + i * 3) rfl [_, _, _] _ HR.out Try.underlying31 rfl size_spec ?_; go_frame)
          | ((with_reducible refine st_gate ?_); refine wpList_store_row rfl 31 (Operand.tmp 6) (Operand.tmp 17) rfl wr.heap.size #[.int .i64 f, .int .i64 iv, .int .i64 t] rfl rfl _ _ (RowAt.new wr _ _) size_spec rfl (by simp [Value.oneCell']) ?_; rw [World.setRow_alloc_new])
          | (go_at_call 25; refine (pulse_ok _).mono ?_; unfold evV; rintro e w3 ⟨rfl, f3⟩; have F3 := Lib.hid f3; clear f3)
          | (go_at_call 18; refine (HCR.out _ ((Fr.alloc No _ _).trans F3.out)).mono ?_; rintro e w4 ⟨rfl, q4, f4⟩; have HQ4 := Lib.hid q4; have F4 : Hid (Fr (fun k => k = b) (wr.alloc (.cells #[.int .i64 f, .int .i64 iv, .int .i64 t] 31)) w4) := F3.out.any.trans f4; clear q4 f4)
          | ((with_reducible refine ld_gate ?_); refine wpList_load_mid rfl 31 (Operand.tmp 6) rfl wr.heap.size 0 rfl [_, _, _] _ (HX0.out _ F4.out).range Try.underlying31 rfl size_spec ?_; go_frame)
          | (go_at_call 24; refine (HSP.out _ HQ4.out).mono ?_; rintro e w5 ⟨⟨r0, r1, r2, z, rfl⟩, q5, f5⟩; have HQ5 := Lib.hid q5; have F5 := Lib.hid f5; clear q5 f5)
          | ((with_reducible refine st_gate ?_); refine wpList_store_row rfl 31 (Operand.tmp 9) (Operand.tmp 29) rfl w5.heap.size sz rfl rfl _ #[.int .i64 r0, .int .i64 r1, .int .i64 r2] (RowAt.new w5 _ _) size_spec rfl (by simp [Value.oneCell']) ?_; rw [World.setRow_alloc_new]))
        have hfa : Fr (fun k => k = b) wr (w5.alloc (.cells #[.int .i64 r0, .int .i64 r1, .int .i64 r2] 31)) := (((Fr.alloc _ _ _).trans F4.out).trans F5.out).trans (Fr.alloc _ _ _)
        go_ret2
        exact ⟨.inl rfl, HFR.out _ hfa⟩
    · have he : i = P.length := by have := HI.out.1; omega
      subst he
      clear hi
      go_wp2
      go_ret2
      exact ⟨.inr ⟨B, b, rfl, HBW.out.1, HBW.out.2, HI.out.2.2.1, HI.out.2.1, fun j x hx => HI.out.2.2.2.1 j x (List.getElem?_eq_some_iff.1 hx).1 hx⟩, HI.out.2.2.2.2⟩
end Go.Proofs.Ytkjokmfhmppinaa
