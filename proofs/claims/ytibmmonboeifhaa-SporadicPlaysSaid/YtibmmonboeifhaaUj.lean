/- The contracts of newRing and New. -/
import Derived.Test.YtibmmonboeifhaaUi
namespace Go.Proofs.Ytibmmonboeifhaa
open Go.RowKit
set_option linter.unusedVariables false

theorem ring_one (a b c : Value) (ha : a.oneCell' = true) (hb : b.oneCell' = true) (hc : c.oneCell' = true) : (#[a, b, c] : Array Value).all (·.oneCell') = true := by simp [ha, hb, hc]
set_option maxRecDepth 100000 in
set_option maxHeartbeats 1000000 in
theorem ring_any (n : Nat) (h0 : 1 ≤ n) (h1 : n ≤ 32) (w : World) : Calls Try.prog 59 #[.int .i64 (n : Int)] w fun e w' => e = .returned (.agg #[.slice (some ⟨w.heap.size + 1, 0, none⟩) n n, .int .i64 0, .int .i64 0]) ∧ RowAt w' (w.heap.size + 1) 75 (plA n (fun _ => (0, 0))) ∧ Below w.heap.size w w' := by
  obtain ⟨i0, hi0, hz0, hz1, hz2⟩ := info_parts info_rep
  have HI0 := Lib.hid hi0
  have HZ0 := Lib.hid hz0
  have HZ1 := Lib.hid hz1
  have HZ2 := Lib.hid hz2
  have HK : Hid (n ≤ 32) := h1
  have m1 : (n : Int) ≤ 32 := by omega
  have m0 : (1 : Int) ≤ n := by omega
  clear hi0 hz0 hz1 hz2 h0 h1
  go_enter Try.func59, Try.ntmps59
  go_upto_region 1 with (fail)
  have HR0 := Lib.hid (RowAt.new w 97 #[.slice none 0 0, .int .i64 0, .int .i64 0])
  have HB0 : Hid (Below w.heap.size w (w.alloc (.cells #[.slice none 0 0, .int .i64 0, .int .i64 0] 97))) := (Below.refl _ _).alloc (Nat.le_refl _) _
  have HZ : Hid ((w.alloc (.cells #[.slice none 0 0, .int .i64 0, .int .i64 0] 97)).heap.size = w.heap.size + 1) := by show _ = _; simp
  generalize World.alloc w _ = W1 at HR0 HB0 HZ ⊢
  have HS3 : Hid ((Try.prog.info? 97).map (·.size) = some 3) := by show _ = _; kernel_rfl
  go_wp2_with (first
    | (at_make; refine wpList_make_full _ rfl _ _ 61 rfl W1.heap.size 75 i0 (.agg #[.int .i64 0, .int .i64 0]) 2 Try.underlying61 HI0.out HZ0.out HZ1.out .i64 .i64 (n : Int) (n : Int) n rfl rfl rfl rfl (by rw [HZ2.out]; have := HK.out; omega) (by have := HK.out; unfold maxLen; omega) (Nat.le_refl _) ?_; intro w1 o1 g1; have HO := Lib.hid o1; have HG := Lib.hid g1; have HRX := Lib.hid (HR0.out.fr (Fr.grown (S := fun _ => False) g1 (fun k e => by cases e)) id); clear o1 g1; rw [HZ.out] at HO ⊢)
    | (refine wpList_store_row rfl 97 (Operand.tmp 2) (Operand.tmp 5) rfl w.heap.size #[.slice (some ⟨w.heap.size + 1, 0, none⟩) n n, .int .i64 0, .int .i64 0] rfl rfl 97 _ (HRX.out) HS3.out rfl (ring_one _ _ _ rfl rfl rfl) ?_))
  refine bodyPost_ret (v := .agg #[.slice (some ⟨w.heap.size + 1, 0, none⟩) n n, .int .i64 0, .int .i64 0]) (results_cell_row rfl _ _ w.heap.size 97 _ (0, 0) _ rfl (setRow_heap _ _ _ _ _ _ HRX.out) Try.underlying97 rfl HS3.out) rfl ⟨rfl, ?_, ?_⟩
  · obtain ⟨cur, h1, h2, h3⟩ := row_of_own HO.out
    have hc : cur = plA n (fun _ => (0, 0)) := by
      apply Array.ext'
      rw [h3]
      refine List.ext_getElem? fun i => ?_
      by_cases hi : i < n * 2
      · rw [show (plA n (fun _ => ((0 : Int), (0 : Int)))).toList[i]? = (plA n (fun _ => (0, 0)))[i]? from by simp, plA_get _ _ _ hi, plV]
        rcases Nat.mod_two_eq_zero_or_one i with h | h <;> simp [madeCells, Value.cells, hi, h]
      · rw [List.getElem?_eq_none (by simp [size_madeCells]; omega), List.getElem?_eq_none (by rw [Array.length_toList, plA_size]; omega)]
    rw [hc] at h1
    exact (setRow_other _ _ _ _ (by omega)).trans h1
  · exact Fr.below (S := fun k => k = w.heap.size) HB0.out ((Fr.grown HG.out (fun k e => by cases e)).trans (Fr.setRow _ _ _ rfl)) HB0.out.size (fun i e => Nat.le_of_eq e.symm)

def newQ (b p : Int) (n : Nat) (l : Int) (G : Nat) : SQ := ⟨p, l, b, G, n, 0, 0, 0, -1, 0, fun _ => (0, 0)⟩
def newA (b p : Int) (n : Nat) (l : Int) : AQ := ⟨p, l, b, n, [], 0, -1, 0⟩
theorem new_inv (b p : Int) (n : Nat) (l : Int) (h : okP b p n l = true) : AI b (newA b p n l) := by
  obtain ⟨h1, h2, h3, h4, h5, h6⟩ := (okP_iff _ _ _ _).1 h
  exact ⟨by show 0 ≤ p; omega, h3, by show 0 < n; omega, Nat.zero_le _, by show 0 ≤ b; omega, Int.le_refl _, fun x hx => (nomatch hx), by show b + sumL [] + 0 = b; rw [sumL_nil]; omega, by omega, Int.le_refl _, by show (-1 : Int) ≤ _; omega⟩
set_option maxRecDepth 100000 in
set_option maxHeartbeats 1000000 in
theorem new_bad (b p n l : Int) (h : okP b p n l ≠ true) (w : World) : Calls Try.prog 24 #[.agg (parA b p n l)] w fun e w' => e = .returned (.tuple #[.pointer none, .int .i64 34]) ∧ Below w.heap.size w w' := by
  have HR := Lib.hid (RowAt.new w 45 (parA b p n l))
  have HB : Hid (Below w.heap.size w (w.alloc (.cells (parA b p n l) 45))) := (Below.refl _ _).alloc (Nat.le_refl _) _
  have HS : Hid ((Try.prog.info? 45).map (·.size) = some (parA b p n l).size) := by show _ = _; unfold parA; kernel_rfl
  have HC : Hid (∀ w, Calls Try.prog 28 #[.agg (parA b p n l)] w fun e w' => e = .returned (.int .i64 34) ∧ Below w.heap.size w w') := fun w => by
    have := check_any b p n l w; rw [chkP, if_neg h] at this; exact this
  clear h
  go_enter Try.func24, Try.ntmps24
  go_upto_region 1 with (fail)
  generalize World.alloc w _ = W at HR HB ⊢
  generalize hgg : w.heap.size = x at HR ⊢
  have HGG := Lib.hid hgg
  clear hgg
  go_wp2_with (first
    | (refine wpList_load_row rfl 45 _ rfl x rfl 45 (parA b p n l) (0, 0) _ HR.out Try.underlying45 rfl HS.out ?_)
    | (go_at_call 28; refine (HC.out _).mono ?_; rintro e W2 ⟨rfl, g2⟩; have G2 := Lib.hid g2; clear g2))
  go_ret2
  exact ⟨rfl, HB.out.trans (G2.out.mono HB.out.size)⟩

set_option maxRecDepth 100000 in
set_option maxHeartbeats 1000000 in
theorem new_ok (b p : Int) (n : Nat) (l : Int) (h : okP b p n l = true) (w : World) : Calls Try.prog 24 #[.agg (parA b p n l)] w fun e w' => ∃ B G, e = .returned (.tuple #[.pointer (some ⟨B, 0, none⟩), .int .i64 0]) ∧ w.heap.size ≤ B ∧ w.heap.size ≤ G ∧ SS B G b (newA b p n l) w' ∧ Below w.heap.size w w' := by
  obtain ⟨k1, k2, k3, k4, k5, k6⟩ := (okP_iff _ _ _ _).1 h
  have HI := Lib.hid (new_inv b p n l h)
  have HR := Lib.hid (RowAt.new w 45 (parA b p n l))
  have HB : Hid (Below w.heap.size w (w.alloc (.cells (parA b p n l) 45))) := (Below.refl _ _).alloc (Nat.le_refl _) _
  have HS : Hid ((Try.prog.info? 45).map (·.size) = some (parA b p n l).size) := by show _ = _; unfold parA; kernel_rfl
  have HC : Hid (∀ w, Calls Try.prog 28 #[.agg (parA b p n l)] w fun e w' => e = .returned (.int .i64 0) ∧ Below w.heap.size w w') := fun w => by
    have := check_any b p n l w; rw [chkP, if_pos h] at this; exact this
  have HN : Hid (∀ w, Calls Try.prog 59 #[.int .i64 (n : Int)] w fun e w' => e = .returned (.agg #[.slice (some ⟨w.heap.size + 1, 0, none⟩) n n, .int .i64 0, .int .i64 0]) ∧ RowAt w' (w.heap.size + 1) 75 (plA n (fun _ => (0, 0))) ∧ Below w.heap.size w w') := fun w => ring_any n (by omega) (by omega) w
  have HX : Hid (w.heap.size < (w.alloc (.cells (parA b p n l) 45)).heap.size) := by show _ < _; simp
  clear h
  go_enter Try.func24, Try.ntmps24
  go_upto_region 1 with (fail)
  generalize World.alloc w _ = W at HR HB HX ⊢
  generalize hgg : w.heap.size = x at HR HX ⊢
  have HGG := Lib.hid hgg
  clear hgg
  go_upto_region 4 with (first
    | (refine wpList_load_row rfl 45 _ rfl x rfl 45 (parA b p n l) (0, 0) _ HR.out Try.underlying45 rfl HS.out ?_)
    | (go_at_call 28; refine (HC.out _).mono ?_; rintro e W2 ⟨rfl, g2⟩; have G2 := Lib.hid g2; clear g2))
  have HR2 := Lib.hid (HR.out.below G2.out HX.out)
  have HB2 := Lib.hid (HB.out.trans (G2.out.mono HB.out.size))
  have c0 : W2.cell? ⟨x, 0, none⟩ = some (.int .i64 b) := HR2.out.cell 0
  have c1 : W2.cell? ⟨x, 1, none⟩ = some (.int .i64 p) := HR2.out.cell 1
  have c2 : W2.cell? ⟨x, 2, none⟩ = some (.int .i64 n) := HR2.out.cell 2
  have c3 : W2.cell? ⟨x, 3, none⟩ = some (.int .i64 l) := HR2.out.cell 3
  have HX2 : Hid (x < W2.heap.size) := HR2.out.lt
  have HK : Hid (∀ W3, Below W2.heap.size W2.drew W3 → W3.cell? ⟨x, 0, none⟩ = some (.int .i64 b) ∧ W3.cell? ⟨x, 1, none⟩ = some (.int .i64 p) ∧ W3.cell? ⟨x, 2, none⟩ = some (.int .i64 n) ∧ W3.cell? ⟨x, 3, none⟩ = some (.int .i64 l)) := fun W3 hb => by
    have := (show RowAt W2.drew x _ _ from HR2.out).below hb HX2.out
    exact ⟨this.cell 0, this.cell 1, this.cell 2, this.cell 3⟩
  clear HC HR HX HB G2
  go_region_held3 (fun w' => w'.cell? ⟨x, 0, none⟩ = some (.int .i64 b) ∧ w'.cell? ⟨x, 1, none⟩ = some (.int .i64 p) ∧ w'.cell? ⟨x, 2, none⟩ = some (.int .i64 (n : Int)) ∧ w'.cell? ⟨x, 3, none⟩ = some (.int .i64 l))
    (first | exact ⟨c0, c1, c2, c3⟩ | exact ⟨q0, q1, q2, q3⟩ | go_keep)
    (first | (go_at_call 59; refine (HN.out _).mono ?_; rintro e W3 ⟨rfl, r3, g3⟩; obtain ⟨q0, q1, q2, q3⟩ := HK.out _ g3))
  have R3 : Hid (RowAt W3 (W2.heap.size + 1) 75 (plA n (fun _ => (0, 0)))) := r3
  have G3 : Hid (Below W2.heap.size W2.drew W3) := g3
  clear r3 g3 c0 c1 c2 c3 q0 q1 q2 q3
  go_wp2
  go_ret2
  have hlt := R3.out.lt
  have hz := HB2.out.size
  refine ⟨W3.heap.size, W2.heap.size + 1, rfl, by omega, by omega, ⟨HI.out, newQ b p n l (W2.heap.size + 1), ⟨RowAt.new W3 _ _, R3.out.fr (Fr.alloc (fun _ => False) _ _) id, (show W3.heap.size ≠ W2.heap.size + 1 by omega), (show 0 < n by omega), (show n ≤ 32 by omega), (show 0 < n by omega), Nat.zero_le _⟩, rfl, rfl⟩, ?_⟩
  exact Below.alloc (Below.trans HB2.out ((Fr.toBelow (Fr.drew (fun _ => False) W2) (fun _ _ h => h)).mono hz |>.trans (G3.out.mono hz))) (by omega) _
end Go.Proofs.Ytibmmonboeifhaa
