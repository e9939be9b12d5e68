/- nearest, source. -/
import Derived.Test.YteikipiigbjgbaaGp
namespace Go.Proofs.Yteikipiigbjgbaa
open Go.RowKit
set_option linter.unusedVariables false

theorem near_take (D : Nat → Int) (l : List Nat) (i x : Nat) (h : l[i]? = some x) : near D (l.take (i + 1)) = nearer D (near D (l.take i)) x := by
  unfold near
  rw [List.take_add_one, h, List.foldl_append]; rfl
theorem near_lt {D : Nat → Int} {l : List Nat} {n : Nat} (h : ∀ x ∈ l, x < n) (hne : near D l ≠ -1) : 0 ≤ near D l ∧ (near D l).toNat < n := by
  obtain ⟨a, b, _⟩ := (near_holds D l).some_ hne
  exact ⟨a, h _ b⟩
set_option maxRecDepth 100000 in
set_option maxHeartbeats 4000000 in
theorem nearest_any {n gd : Nat} {D : Nat → Int} {L : List Nat} {ha : Option Addr} {hcp : Nat} {W : World} (hnums : NumsIn W ha (natI L)) (hr : RowAt W gd 3 (encPA n D)) (hL : ∀ x ∈ L, x < n) (hm : L.length ≤ 65536) (hn : n ≤ 256) :
    Calls Try.prog 47 #[.slice ha L.length hcp, .slice (some ⟨gd, 0, none⟩) n n] W fun e w' => e = .returned (.int .i64 (near D L)) ∧ W = w' := by
  have HNM := Lib.hid hnums
  have HR := Lib.hid hr
  have HL := Lib.hid hL
  have l0 : (L.length : Int) ≤ 65536 := by omega
  have n0 : (n : Int) ≤ 256 := by omega
  have HTK : Hid (near D (L.take L.length) = near D L) := by show _ = _; rw [List.take_length]
  generalize near D L = R at HTK ⊢
  clear hnums hr hL hm hn
  go_enter Try.func47, Try.ntmps47
  go_wp2
  go_loop [5, 11] (fun vb vi => ∃ (i : Nat) (b : Int), vi = .int .i64 i ∧ vb = .int .i64 b ∧ Hid (i ≤ L.length ∧ b = near D (L.take i))) (fun _ vi => L.length - (intOf vi).toNat)
  case atStart => exact ⟨0, -1, rfl, rfl, Nat.zero_le _, rfl⟩
  case round =>
    obtain ⟨i, b, rfl, rfl, HI⟩ := hrel
    have i0 : (0 : Int) ≤ i := by omega
    by_cases hi : i < L.length
    · have i1 : (i : Int) < L.length := by omega
      have HI1 := Lib.hid hi
      have HMS : Hid (L.length - (intOf (Value.int IntKind.i64 ((i : Int) + 1))).toNat < L.length - (intOf (Value.int IntKind.i64 (i : Int))).toNat) := by
        show _ < _
        simp only [intOf]
        omega
      obtain ⟨hb, hoff, rfl, _, c9⟩ := HNM.out.get (i := i) (by rw [natI_len]; exact hi)
      have hh : L[i]? = some L[i] := List.getElem?_eq_getElem hi
      have HTN := Lib.hid (near_take D L i _ hh)
      have HX : Hid (L[i] < n) := HL.out _ (List.getElem_mem hi)
      rw [natI_getD, List.getD_eq_getElem?_getD, hh] at c9
      simp only [Option.getD_some] at c9
      clear hh hi
      generalize L[i] = x at c9 HTN HX
      have x0 : (0 : Int) ≤ x := by omega
      have x1 : (x : Int) < n := by have := HX.out; omega
      have c10 : W.cell? ⟨gd, x, none⟩ = some (.int .i64 (D x)) := by rw [HR.out.cell, encPA_get _ HX.out]
      have HB := Lib.hid HI.out.2
      by_cases h1 : D x = -1
      · have HV : Hid (near D (L.take (i + 1)) = b) := by show _ = _; rw [HTN.out, nearer, if_pos h1, HB.out]
        rw [h1] at c10
        clear h1
        go_wp2
        go_round
        case rel => exact ⟨i + 1, b, by push_cast; rfl, rfl, HI1.out, HV.out.symm⟩
        case measure => exact HMS.out
      have g1 : (D x == -1) = false := by simpa using h1
      by_cases h2 : b = -1
      · have HV : Hid (near D (L.take (i + 1)) = x) := by show _ = _; rw [HTN.out, nearer, if_neg h1, if_pos (by rw [← HB.out]; exact h2)]
        subst h2
        clear h1
        generalize D x = z at c10 g1
        go_wp2
        go_round
        case rel => exact ⟨i + 1, x, by push_cast; rfl, rfl, HI1.out, HV.out.symm⟩
        case measure => exact HMS.out
      have g2 : (b == -1) = false := by simpa using h2
      obtain ⟨hb0, hbn⟩ := near_lt (D := D) (l := L.take i) (fun x hx => HL.out x (List.mem_of_mem_take hx)) (by rw [← HB.out]; exact h2)
      rw [← HB.out] at hb0 hbn
      obtain ⟨m, rfl⟩ : ∃ m : Nat, b = m := ⟨b.toNat, by omega⟩
      have m0 : (0 : Int) ≤ m := by omega
      have m1 : (m : Int) < n := by omega
      have c11 : W.cell? ⟨gd, m, none⟩ = some (.int .i64 (D m)) := by rw [HR.out.cell, encPA_get _ (by omega)]
      have HNR : Hid (near D (L.take (i + 1)) = if D x < D m then (x : Int) else if D x = D m ∧ (x : Int) < m then (x : Int) else (m : Int)) := by
        show _ = _
        rw [HTN.out, nearer, ← HB.out, if_neg h1, if_neg h2, Int.toNat_natCast]
      clear h1 h2 hb0 hbn
      by_cases h3 : D x < D m
      · have HV : Hid (near D (L.take (i + 1)) = x) := by show _ = _; rw [HNR.out, if_pos h3]
        generalize D x = z at c10 g1 h3
        generalize D m = z2 at c11 h3
        go_wp2
        go_round
        case rel => exact ⟨i + 1, x, by push_cast; rfl, rfl, HI1.out, HV.out.symm⟩
        case measure => exact HMS.out
      by_cases h4 : D x = D m
      · have g4 : (D x == D m) = true := by simpa using h4
        by_cases h5 : x < m
        · have HV : Hid (near D (L.take (i + 1)) = x) := by show _ = _; rw [HNR.out, if_neg h3, if_pos ⟨h4, by omega⟩]
          have g5 : decide (x < m) = true := decide_eq_true h5
          clear h4 h5
          generalize D x = z at c10 g1 h3 g4
          generalize D m = z2 at c11 h3 g4
          go_wp2
          go_round
          case rel => exact ⟨i + 1, x, by push_cast; rfl, rfl, HI1.out, HV.out.symm⟩
          case measure => exact HMS.out
        · have HV : Hid (near D (L.take (i + 1)) = m) := by show _ = _; rw [HNR.out, if_neg h3, if_neg (fun h => by omega)]
          have g5 : decide (x < m) = false := decide_eq_false h5
          clear h4 h5
          generalize D x = z at c10 g1 h3 g4
          generalize D m = z2 at c11 h3 g4
          go_wp2
          go_round
          case rel => exact ⟨i + 1, m, by push_cast; rfl, rfl, HI1.out, HV.out.symm⟩
          case measure => exact HMS.out
      · have HV : Hid (near D (L.take (i + 1)) = m) := by show _ = _; rw [HNR.out, if_neg h3, if_neg (fun h => h4 h.1)]
        have g4 : (D x == D m) = false := by simpa using h4
        clear h4
        generalize D x = z at c10 g1 h3 g4
        generalize D m = z2 at c11 h3 g4
        go_wp2
        go_round
        case rel => exact ⟨i + 1, m, by push_cast; rfl, rfl, HI1.out, HV.out.symm⟩
        case measure => exact HMS.out
    · have hil : i = L.length := by have := HI.out.1; omega
      have hlt : ¬ (i : Int) < L.length := by omega
      have HV : Hid (b = R) := by show _ = _; rw [HI.out.2, hil]; exact HTK.out
      clear hi hil
      go_wp2
      go_ret
      exact ⟨by rw [HV.out] <;> rfl, rfl⟩
end Go.Proofs.Yteikipiigbjgbaa
