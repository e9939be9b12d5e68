/- Equal, Few; awake. -/
import Derived.Test.YteikipiigbjgbaaGu
import Derived.Test.YteikipiigbjgbaaGv
namespace Go.Proofs.Yteikipiigbjgbaa
open Go.RowKit
set_option linter.unusedVariables false

/-- A slice that holds these numbers. -/
def SlI (w : World) (v : Value) (xs : List Int) : Prop :=
  ∃ p c, v = .slice p xs.length c ∧ (xs = [] ∨ ∃ g off, p = some ⟨g, off, none⟩ ∧ ∀ (j : Nat) (x : Int), xs[j]? = some x → w.cell? ⟨g, off + j, none⟩ = some (.int .i64 x))
theorem equal_len (p q : Option Addr) (m n c d : Nat) (h : m ≠ n) (w : World) : Calls Try.prog 19 #[.slice p m c, .slice q n d] w fun e w' => e = .returned (.bool false) ∧ Fr No w w' := by
  have hne : ((m : Int) != n) = true := by simp; omega
  clear h
  go_enter Try.func19, Try.ntmps19
  go_wp2
  go_ret
  exact ⟨rfl, Fr.refl _ _⟩

set_option maxRecDepth 100000 in
set_option maxHeartbeats 2000000 in
theorem equal_same (xs ys : List Int) (h : xs.length = ys.length) (w : World) (v u : Value) (hv : SlI w v xs) (hu : SlI w u ys) (h63 : xs.length ≤ 65536) : Calls Try.prog 19 #[v, u] w fun e w' => e = .returned (.bool (decide (xs = ys))) ∧ Fr No w w' := by
  obtain ⟨p, c, rfl, hp⟩ := hv
  obtain ⟨q, d, rfl, hq⟩ := hu
  rw [← h]
  have hne : ((xs.length : Int) != xs.length) = false := by simp
  have HP := Lib.hid hp
  have HQ := Lib.hid hq
  have HL := Lib.hid h
  have HB := Lib.hid h63
  clear hp hq h h63
  go_enter Try.func19, Try.ntmps19
  go_wp2
  go_loopw [5] (fun vi wr => ∃ i : Nat, vi = .int .i64 i ∧ Hid (i ≤ xs.length ∧ xs.take i = ys.take i ∧ Fr No w wr)) (fun vi _ => xs.length - (intOf vi).toNat)
  case atStart => exact ⟨0, rfl, Nat.zero_le _, rfl, Fr.refl _ _⟩
  case round =>
    obtain ⟨i, rfl, HR⟩ := hrel
    by_cases hi : i < xs.length
    · have HI := Lib.hid hi
      have hi' : i < ys.length := by have := HL.out; omega
      obtain ⟨g, off, rfl, hg⟩ : ∃ g off, p = some ⟨g, off, none⟩ ∧ ∀ (j : Nat) (x : Int), xs[j]? = some x → w.cell? ⟨g, off + j, none⟩ = some (.int .i64 x) := by
        rcases HP.out with h | h
        · rw [h] at hi; cases hi
        · exact h
      obtain ⟨g', off', rfl, hg'⟩ : ∃ g off, q = some ⟨g, off, none⟩ ∧ ∀ (j : Nat) (x : Int), ys[j]? = some x → w.cell? ⟨g, off + j, none⟩ = some (.int .i64 x) := by
        rcases HQ.out with h | h
        · rw [h] at hi'; cases hi'
        · exact h
      have k : ∀ (g j : Nat) (v : Value), w.cell? ⟨g, j, none⟩ = some v → wr.cell? ⟨g, j, none⟩ = some v := fun g j v hc => (World.cell?_of_block (a := ⟨g, j, none⟩) (HR.out.2.2.block g (World.block_lt_of_cell? w ⟨g, j, none⟩ hc) id)).trans hc
      obtain ⟨x, hx⟩ : ∃ x, xs[i]? = some x := ⟨_, List.getElem?_eq_getElem hi⟩
      obtain ⟨y, hy⟩ : ∃ y, ys[i]? = some y := ⟨_, List.getElem?_eq_getElem hi'⟩
      have c1 : wr.cell? ⟨g, off + i, none⟩ = some (.int .i64 x) := k _ _ _ (hg i _ hx)
      have c2 : wr.cell? ⟨g', off' + i, none⟩ = some (.int .i64 y) := k _ _ _ (hg' i _ hy)
      have i0 : (0 : Int) ≤ i := by omega
      have i1 : (i : Int) < xs.length := by omega
      have hT : Hid (x = y → xs.take (i + 1) = ys.take (i + 1)) := fun e => by rw [List.take_add_one, List.take_add_one, HR.out.2.1, hx, hy, e]
      have hF : Hid (x ≠ y → xs ≠ ys) := fun e he => by subst he; rw [hx] at hy; exact e (by injection hy)
      have hw : wrap64 ((i : Int) + 1) = ((i + 1 : Nat) : Int) := by have := HB.out; rw [IntWalk.wrap64_in _ ⟨by omega, by omega⟩]; omega
      have hmx : Try.prog.follows .mixedOrders = true := by kernel_rfl
      clear hi hi' hg hg' k hx hy
      by_cases hxy : x = y
      · have hE := Lib.hid (hT.out hxy)
        subst hxy
        have hb : (x != x) = false := by simp
        clear hT hF
        go_wp2
        go_region
        all_goals
          go_wp2
          go_roundw
          case rel => exact ⟨i + 1, congrArg (Value.int .i64) hw, HI.out, hE.out, HR.out.2.2.trans (Fr.drew _ _)⟩
          case measure =>
            have := HI.out
            show xs.length - (intOf (Value.int .i64 (wrap64 ((i : Int) + 1)))).toNat < xs.length - (intOf (Value.int .i64 (i : Int))).toNat
            rw [hw]
            simp only [intOf]
            omega
      · have hE := Lib.hid (hF.out hxy)
        have hb : (x != y) = true := by simpa using hxy
        clear hT hF hxy
        go_wp2
        go_region
        all_goals
          go_wp2
          go_ret
          exact ⟨by simp [hE.out], HR.out.2.2.trans (Fr.drew _ _)⟩
    · obtain rfl : i = xs.length := by have := HR.out.1; omega
      have hlt : ¬ (xs.length : Int) < xs.length := by omega
      clear hi
      go_wp2
      go_ret
      have h := HR.out.2.1
      rw [List.take_length, HL.out, List.take_length] at h
      exact ⟨by simp [h], HR.out.2.2⟩
theorem equal_any (xs ys : List Int) (w : World) (v u : Value) (hv : SlI w v xs) (hu : SlI w u ys) (h63 : xs.length ≤ 65536) : Calls Try.prog 19 #[v, u] w fun e w' => e = .returned (.bool (decide (xs = ys))) ∧ Fr No w w' := by
  by_cases h : xs.length = ys.length
  · exact equal_same xs ys h w v u hv hu h63
  · have hne : xs ≠ ys := fun e => h (by rw [e])
    rw [decide_eq_false hne]
    obtain ⟨p, c, rfl, _⟩ := hv
    obtain ⟨q, d, rfl, _⟩ := hu
    exact equal_len p q _ _ c d h w

theorem SlI.of_nums {w : World} {a : Option Addr} {xs : List Int} {c : Nat} (h : NumsIn w a xs) : SlI w (.slice a xs.length c) xs :=
  ⟨a, c, rfl, h.imp id fun ⟨b, off, e, _, h2⟩ => ⟨b, off, e, h2⟩⟩
theorem own_ints {W : World} {lo n : Nat} {v : Value} {l : List Int} (h : W.ownsRow lo 3 1 v n (encI l)) : ∃ a cap, v = .slice a n cap ∧ n = l.length ∧ NumsIn W a l ∧ ∀ b off, a = some ⟨b, off, none⟩ → lo ≤ b ∧ b < W.heap.size := by
  have hn : n = l.length := by have := h.1; rw [encI_len] at this; omega
  have hc := fun g (e : v.ownBlock = some g) => h.cells (g := g) e
  rcases h.2 with ⟨rfl, h0⟩ | ⟨g, cap, cur, rfl, h2, h3, _⟩
  · exact ⟨none, 0, by rw [h0], hn, .inl (List.length_eq_zero_iff.1 (by omega)), fun b off e => nomatch e⟩
  · refine ⟨some ⟨g, 0, none⟩, cap, rfl, hn, .inr ⟨g, 0, rfl, (Array.getElem?_eq_some_iff.1 h3).1, fun i x hx => ?_⟩, fun b off e => ?_⟩
    · have := hc g rfl i (.int .i64 x) (by simp only [encI, List.getElem?_map, hx]; rfl)
      rw [Addr.add_mid, Nat.zero_add] at this
      rw [Nat.zero_add]; exact this
    · injection e with e; injection e with e1 e2
      subst e1; exact ⟨h2, (Array.getElem?_eq_some_iff.1 h3).1⟩
theorem encN_eq (l : List Nat) : encN l = encI (natI l) := by simp [encN, encI, natI]
theorem encP_eq (n : Nat) (p : Nat → Int) : encP n p = encI ((List.range n).map p) := by simp [encP, encI]
theorem SlI.own {W : World} {lo n : Nat} {v : Value} {l : List Int} (h : W.ownsRow lo 3 1 v n (encI l)) : SlI W v l := by
  obtain ⟨a, cap, rfl, hn, h2, _⟩ := own_ints h
  rw [hn]; exact SlI.of_nums h2
theorem SlI.no {w w' : World} {v : Value} {xs : List Int} (h : SlI w v xs) (hf : Fr No w w') : SlI w' v xs := by
  obtain ⟨p, c, e, h⟩ := h
  exact ⟨p, c, e, h.imp id fun ⟨g, off, e1, h2⟩ => ⟨g, off, e1, fun j x hx => (World.cell?_of_block (a := ⟨g, off + j, none⟩) (hf.block g (World.block_lt_of_cell? w ⟨g, off + j, none⟩ (h2 j x hx)) id)).trans (h2 j x hx)⟩⟩
def fewB (n m : Nat) : Bool := decide (n ≤ 30) && decide (m ≤ 60)
theorem few_any (a c : Option Addr) (n cap m cap' : Nat) (W : World) : Calls Try.prog 14 #[.slice a n cap, .slice c m cap'] W fun e w' => e = .returned (.bool (fewB n m)) ∧ W = w' := by
  by_cases hp : n ≤ 30
  · have HV : Hid (fewB n m = decide (m ≤ 60)) := by show _ = _; simp [fewB, hp]
    have g1 : decide (n ≤ 30) = true := decide_eq_true hp
    have g2 : ((n : Int) ≤ 30) := by omega
    clear hp
    go_enter Try.func14, Try.ntmps14
    go_wp2
    go_ret
    exact ⟨by rw [HV.out] <;> (first | rfl | (congr 2; simp; omega)), rfl⟩
  · have HV : Hid (fewB n m = false) := by show _ = _; simp [fewB, hp]
    have g1 : decide (n ≤ 30) = false := decide_eq_false hp
    have g2 : ¬ ((n : Int) ≤ 30) := by omega
    clear hp
    go_enter Try.func14, Try.ntmps14
    go_wp2
    go_ret
    exact ⟨by rw [HV.out] <;> rfl, rfl⟩
end Go.Proofs.Yteikipiigbjgbaa
