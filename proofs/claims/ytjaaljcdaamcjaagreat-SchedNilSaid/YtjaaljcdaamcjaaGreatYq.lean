/- The contract of the statements' Equal. -/
import Derived.Test.YtjaaljcdaamcjaaGreatYp
import Derived.LoopTactic
namespace Go.Proofs.YtjaaljcdaamcjaaGreat.Rd
open Go.RowKit Go.Shelf
set_option linter.unusedVariables false

/-- A slice that holds these numbers. -/
def SlN (w : World) (v : Value) (xs : List Nat) : Prop :=
  ∃ p c, v = .slice p xs.length c ∧ (xs = [] ∨ ∃ g, p = some ⟨g, 0, none⟩ ∧ ∀ (j x : Nat), xs[j]? = some x → w.cell? ⟨g, j, none⟩ = some (.int .i64 (x : Int)))

theorem equal_len (p q : Option Addr) (m n c d : Nat) (h : m ≠ n) (w : World) : Calls Tryz.prog 21 #[.slice p m c, .slice q n d] w fun e w' => e = .returned (.bool false) ∧ w.grownBy w' none := by
  have hne : ((m : Int) != n) = true := by simp; omega
  clear h
  go_enter Tryz.func21, Tryz.ntmps21
  go_wp2
  go_ret
  exact ⟨rfl, grown_refl _ _⟩

set_option maxRecDepth 100000 in
set_option maxHeartbeats 2000000 in
theorem equal_same (xs ys : List Nat) (h : xs.length = ys.length) (w : World) (v u : Value) (hv : SlN w v xs) (hu : SlN w u ys) (h63 : xs.length ≤ 65536) : Calls Tryz.prog 21 #[v, u] w fun e w' => e = .returned (.bool (decide (xs = ys))) ∧ w.grownBy w' none := by
  obtain ⟨p, c, rfl, hp⟩ := hv
  obtain ⟨q, d, rfl, hq⟩ := hu
  rw [← h]
  have hne : ((xs.length : Int) != xs.length) = false := by simp
  have HP := Lib.hid hp
  have HQ := Lib.hid hq
  have HL := Lib.hid h
  have HB := Lib.hid h63
  clear hp hq h h63
  go_enter Tryz.func21, Tryz.ntmps21
  go_wp2
  go_loopw [5] (fun vi wr => ∃ i : Nat, vi = .int .i64 i ∧ Hid (i ≤ xs.length ∧ xs.take i = ys.take i ∧ w.grownBy wr none)) (fun vi _ => xs.length - (intOf vi).toNat)
  case atStart => exact ⟨0, rfl, Nat.zero_le _, rfl, grown_refl _ _⟩
  case round =>
    obtain ⟨i, rfl, HR⟩ := hrel
    by_cases hi : i < xs.length
    · have HI := Lib.hid hi
      have hi' : i < ys.length := by have := HL.out; omega
      obtain ⟨g, rfl, hg⟩ : ∃ g, p = some ⟨g, 0, none⟩ ∧ ∀ (j x : Nat), xs[j]? = some x → w.cell? ⟨g, j, none⟩ = some (.int .i64 (x : Int)) := by
        rcases HP.out with h | h
        · rw [h] at hi; cases hi
        · exact h
      obtain ⟨g', rfl, hg'⟩ : ∃ g, q = some ⟨g, 0, none⟩ ∧ ∀ (j x : Nat), ys[j]? = some x → w.cell? ⟨g, j, none⟩ = some (.int .i64 (x : Int)) := by
        rcases HQ.out with h | h
        · rw [h] at hi'; cases hi'
        · exact h
      have k : ∀ (g j : Nat) (v : Value), w.cell? ⟨g, j, none⟩ = some v → wr.cell? ⟨g, j, none⟩ = some v := fun g j v hc => cell_kept hc HR.out.2.2 (fun r hr => by cases hr)
      obtain ⟨x, hx⟩ : ∃ x, xs[i]? = some x := ⟨_, List.getElem?_eq_getElem hi⟩
      obtain ⟨y, hy⟩ : ∃ y, ys[i]? = some y := ⟨_, List.getElem?_eq_getElem hi'⟩
      have c1 : wr.cell? ⟨g, i, none⟩ = some (.int .i64 (x : Int)) := k _ _ _ (hg i _ hx)
      have c2 : wr.cell? ⟨g', i, none⟩ = some (.int .i64 (y : Int)) := k _ _ _ (hg' i _ hy)
      have i0 : (0 : Int) ≤ i := by omega
      have i1 : (i : Int) < xs.length := by omega
      have hT : Hid (x = y → xs.take (i + 1) = ys.take (i + 1)) := fun e => by rw [List.take_add_one, List.take_add_one, HR.out.2.1, hx, hy, e]
      have hF : Hid (x ≠ y → xs ≠ ys) := fun e he => by subst he; rw [hx] at hy; exact e (by injection hy)
      have hw : wrap64 ((i : Int) + 1) = ((i + 1 : Nat) : Int) := by have := HB.out; rw [IntWalk.wrap64_in _ ⟨by omega, by omega⟩]; omega
      have hmx : Tryz.prog.follows .mixedOrders = true := by kernel_rfl
      clear hi hi' hg hg' k hx hy
      by_cases hxy : x = y
      · have hE := Lib.hid (hT.out hxy)
        subst hxy
        have hb : ((x : Int) != x) = false := by simp
        clear hT hF
        go_wp2
        go_region
        all_goals
          go_wp2
          go_roundw
          case rel => exact ⟨i + 1, congrArg (Value.int .i64) hw, HI.out, hE.out, grown_trans HR.out.2.2 (grown_drew _ _)⟩
          case measure =>
            have := HI.out
            show xs.length - (intOf (Value.int .i64 (wrap64 ((i : Int) + 1)))).toNat < xs.length - (intOf (Value.int .i64 (i : Int))).toNat
            rw [hw]
            simp only [intOf]
            omega
      · have hE := Lib.hid (hF.out hxy)
        have hb : ((x : Int) != y) = true := by simp; omega
        clear hT hF hxy
        go_wp2
        go_region
        all_goals
          go_wp2
          go_ret
          exact ⟨by simp [hE.out], grown_trans HR.out.2.2 (grown_drew _ _)⟩
    · obtain rfl : i = xs.length := by have := HR.out.1; omega
      have hlt : ¬ (xs.length : Int) < xs.length := by omega
      clear hi
      go_wp2
      go_ret
      have h := HR.out.2.1
      rw [List.take_length, HL.out, List.take_length] at h
      exact ⟨by simp [h], HR.out.2.2⟩
theorem equal_any (xs ys : List Nat) (w : World) (v u : Value) (hv : SlN w v xs) (hu : SlN w u ys) (h63 : xs.length ≤ 65536) : Calls Tryz.prog 21 #[v, u] w fun e w' => e = .returned (.bool (decide (xs = ys))) ∧ w.grownBy w' none := by
  by_cases h : xs.length = ys.length
  · exact equal_same xs ys h w v u hv hu h63
  · have hne : xs ≠ ys := fun e => h (by rw [e])
    rw [decide_eq_false hne]
    obtain ⟨p, c, rfl, _⟩ := hv
    obtain ⟨q, d, rfl, _⟩ := hu
    exact equal_len p q _ _ c d h w
theorem SlN.of_owns {w : World} {s L : Nat} {xs : List Nat} (h : w.ownsRow s 3 1 (.slice (some ⟨s, 0, none⟩) L L) L (encI xs)) : SlN w (.slice (some ⟨s, 0, none⟩) L L) xs := by
  have hl : xs.length = L := by have := h.1; simpa [encI] using this
  subst hl
  refine ⟨_, _, rfl, .inr ⟨s, rfl, fun j x hj => ?_⟩⟩
  rcases h.2 with h | ⟨g, cap, cur, h1, _, h3, _, _, h6, h7⟩
  · cases h.1
  · injection h1 with h1 _ h1'
    injection h1 with h1
    injection h1 with h1
    subst h1
    rw [cell_of_row w s j cur 3 (0, 0) h3]
    have e : (cur.toList.take (xs.length * 1))[j]? = some (.int .i64 (x : Int)) := by rw [h7]; simp [encI, hj]
    rw [List.getElem?_take] at e
    split at e
    · simpa using e
    · cases e
end Go.Proofs.YtjaaljcdaamcjaaGreat.Rd
