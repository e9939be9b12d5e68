/- The reference's New. -/
import Derived.Test.YtbjpaemldnoinaaHg
import Derived.Test.YtbjpaemldnoinaaHh
namespace Go.Proofs.Ytbjpaemldnoinaa
open Go.RowKit
set_option linter.unusedVariables false

theorem encQ_cells {W : World} {b off : Nat} {P : List (Int × Int)} (h : ∀ i x, P[i]? = some x → W.cell? ⟨b, off + i * 2, none⟩ = some (.int .i64 x.1) ∧ W.cell? ⟨b, off + i * 2 + 1, none⟩ = some (.int .i64 x.2)) : ∀ j u, (encQ P)[j]? = some u → W.cell? ⟨b, off + j, none⟩ = some u := fun j u hj => by
  have hl : j < P.length * 2 := by rw [← encQ_len]; exact (List.getElem?_eq_some_iff.1 hj).1
  have hx : P[j / 2]? = some P[j / 2] := List.getElem?_eq_getElem (by omega)
  obtain ⟨e1, e2⟩ := encQ_get P _ _ hx
  obtain ⟨d1, d2⟩ := h _ _ hx
  rcases Nat.mod_two_eq_zero_or_one j with h0 | h0
  · rw [show j / 2 * 2 = j from by omega] at e1 d1
    rw [hj] at e1
    rw [d1, ← e1]
  · rw [show j / 2 * 2 + 1 = j from by omega] at e2
    rw [show off + j / 2 * 2 + 1 = off + j from by omega] at d2
    rw [hj] at e2
    rw [d2, ← e2]
set_option maxRecDepth 100000 in
set_option maxHeartbeats 1000000 in
theorem rnew_err (W : World) (win pr : Int) (a : Option Addr) (cap : Nat) (P : List (Int × Int)) (hP : PartsIn W a P) (z : Int) (hz : cfgV win pr P = z) (h0 : z ≠ 0) : Calls Try.prog 20 #[.agg #[.int .i64 win, .int .i64 pr, .slice a P.length cap]] W fun e w' => e = .returned (.tuple #[.pointer none, .int .i64 z]) ∧ Fr (fun _ => False) W w' := by
  have HF : Hid (Fr (fun _ => False) W (W.alloc (.cells #[.int .i64 win, .int .i64 pr, .slice a P.length cap] 51))) := Fr.alloc _ _ _
  have HC : Hid (Calls Try.prog 23 #[.agg #[.int .i64 win, .int .i64 pr, .slice a P.length cap]] (W.alloc (.cells #[.int .i64 win, .int .i64 pr, .slice a P.length cap] 51)) fun e w' => e = .returned (.int .i64 z) ∧ Fr (fun _ => False) (W.alloc (.cells #[.int .i64 win, .int .i64 pr, .slice a P.length cap] 51)) w') := by
    have := rcheck_any _ win pr a cap P (hP.fr HF.out (fun _ _ _ => id))
    rw [hz] at this
    exact this
  have hz0 : (z != 0) = true := by simpa using h0
  clear hP hz h0
  go_enter Try.func20, Try.ntmps20
  go_wp2_with (go_at_call 23; refine HC.out.mono ?_; rintro e W2 ⟨rfl, f2⟩; have F2 := Lib.hid f2; clear f2)
  go_ret2
  exact ⟨rfl, HF.out.trans F2.out⟩
set_option maxRecDepth 100000 in
set_option maxHeartbeats 2000000 in
theorem rnew_ok (W : World) (w p : Nat) (a : Option Addr) (cap : Nat) (P : List (Int × Int)) (hP : PartsIn W a P) (hz : cfgV w p P = 0) : Calls Try.prog 20 #[.agg #[.int .i64 (w : Int), .int .i64 (p : Int), .slice a P.length cap]] W fun e w' => ∃ G, e = .returned (.tuple #[.pointer (some ⟨G, 0, none⟩), .int .i64 0]) ∧ RM W.heap.size G w p P 0 [] w' ∧ Fr (fun _ => False) W w' := by
  have HZ := Lib.hid hz
  have hok := cfg_ok hz
  have HLP : Hid (0 < P.length ∧ P.length ≤ 8) := ⟨by have := hok.2.2.1; omega, hok.2.2.2.1⟩
  have HF : Hid (Fr (fun _ => False) W (W.alloc (.cells #[.int .i64 (w : Int), .int .i64 (p : Int), .slice a P.length cap] 51))) := Fr.alloc _ _ _
  have HR := Lib.hid (RowAt.new W 51 #[.int .i64 (w : Int), .int .i64 (p : Int), .slice a P.length cap])
  have HP := Lib.hid (hP.fr HF.out (fun _ _ _ => id))
  have HC : Hid (Calls Try.prog 23 #[.agg #[.int .i64 (w : Int), .int .i64 (p : Int), .slice a P.length cap]] (W.alloc (.cells #[.int .i64 (w : Int), .int .i64 (p : Int), .slice a P.length cap] 51)) fun e w' => e = .returned (.int .i64 0) ∧ Fr (fun _ => False) (W.alloc (.cells #[.int .i64 (w : Int), .int .i64 (p : Int), .slice a P.length cap] 51)) w') := by
    have := rcheck_any _ w p a cap P HP.out
    rw [hz] at this
    exact this
  clear hP hz hok
  go_enter Try.func20, Try.ntmps20
  go_upto_region 4 with (go_at_call 23; refine HC.out.mono ?_; rintro e W2 ⟨rfl, f2⟩; have F2 := Lib.hid f2; clear f2)
  have HR2 := Lib.hid (HR.out.fr F2.out id)
  have HP2 := Lib.hid (HP.out.fr F2.out (fun _ _ _ => id))
  have HF2 := Lib.hid (HF.out.trans F2.out)
  clear HR HP HC F2 HF
  have hne : P ≠ [] := fun e => by have := HLP.out.1; rw [e] at this; cases this
  obtain ⟨b, off, rfl, hb, hcell⟩ : ∃ b off, a = some ⟨b, off, none⟩ ∧ b < W2.heap.size ∧ ∀ i x, P[i]? = some x → W2.cell? ⟨b, off + i * 2, none⟩ = some (.int .i64 x.1) ∧ W2.cell? ⟨b, off + i * 2 + 1, none⟩ = some (.int .i64 x.2) := by
    rcases HP2.out with h | ⟨b, off, e, h1, h2⟩
    · exact absurd h hne
    · exact ⟨b, off, e, h1, h2⟩
  have HB := Lib.hid hb
  have HX : Hid (W.heap.size < W2.heap.size) := HR2.out.lt
  have l1 : (P.length : Int) ≤ 8 := by have := HLP.out.2; omega
  have c2 : W2.cell? ⟨W.heap.size, 2, none⟩ = some (.slice (some ⟨b, off, none⟩) P.length cap) := HR2.out.cell 2
  have f2 : W2.frozen? ⟨W.heap.size, 2, none⟩ = false := HR2.out.frozen 2
  have hxx : ∀ o j, (W2.alloc o).cell? ⟨W.heap.size, j, none⟩ = W2.cell? ⟨W.heap.size, j, none⟩ := fun o j => World.cell?_of_block (heap_alloc_old _ _ HX.out)
  have HNW : Hid (∀ j u, (encQ P)[j]? = some u → (W2.alloc (.cells #[] 107)).cell? ((⟨b, off, none⟩ : Addr).add j) = some u) := fun j u hj => by
    rw [Addr.add_mid]
    exact (World.cell?_of_block (heap_alloc_old _ _ HB.out)).trans (encQ_cells hcell j u hj)
  have HOW : Hid ((W2.alloc (.cells #[] 107)).ownsRow W2.heap.size 107 2 (.slice (some ⟨W2.heap.size, 0, none⟩) 0 0) 0 []) := World.ownsRow_made (base := W2.heap.size) (e := 107) (size := 2) W2 #[] 0 (Nat.le_refl _) (by decide) rfl
  have HMAX : Hid (0 + P.length ≤ maxLen) := by have := HLP.out.2; show _ ≤ _; unfold maxLen; omega
  have HBYT : Hid ((0 + P.length) * 16 ≤ 140737488355328) := by have := HLP.out.2; show _ ≤ _; omega
  have HSZ : Hid ((W2.alloc (.cells #[] 107)).heap.size = W2.heap.size + 1) := by show _ = _; simp
  have HLO : Hid (W2.heap.size ≤ (W2.alloc (.cells #[] 107)).heap.size) := by rw [HSZ.out]; show _ ≤ _; omega
  obtain ⟨it, hi0, hz0, hz1, hz2⟩ := info_parts info_rpt
  have HT0 := Lib.hid hi0
  have HT1 := Lib.hid hz0
  have HT2 := Lib.hid hz1
  have HT3 := Lib.hid hz2
  have HEL := Lib.hid (encQ_len P)
  have HE1 := Lib.hid (encQ_one P)
  clear hi0 hz0 hz1 hz2 hb hcell hne
  have HAPP : Hid (∀ gg cap' w1, w1.ownsRow W2.heap.size 107 2 (.slice (some ⟨gg, 0, none⟩) (0 + P.length) cap') (0 + P.length) ([] ++ encQ P) → (W2.alloc (.cells #[] 107)).grownBy w1 (Value.slice (some ⟨W2.heap.size, 0, none⟩) 0 0).ownBlock → w1.ownsRow W2.heap.size 107 2 (.slice (some ⟨gg, 0, none⟩) P.length cap') P.length (encQ P) ∧ RowAt w1 W.heap.size 51 #[.int .i64 (w : Int), .int .i64 (p : Int), .slice (some ⟨b, off, none⟩) P.length cap] ∧ Fr (fun _ => False) W2 w1) := fun gg cap' w1 h1 h2 => by
    have hf : Fr (fun k => k = W2.heap.size) W2 w1 := (Fr.alloc _ _ _).trans (Fr.grown h2 fun k e => by injection e with e; exact e.symm)
    rw [Nat.zero_add, List.nil_append] at h1
    exact ⟨h1, HR2.out.fr hf (fun e => by have := HX.out; omega), hf.mono fun k hk e => by omega⟩
  generalize hgx : W.heap.size = x at HR2 HX c2 f2 hxx HAPP ⊢
  have HGX := Lib.hid hgx
  clear hgx
  go_upto_region 5 with (at_builtin; go_must (refine wpList_append_lies _ rfl (.tmp 10) (.tmp 12) 49 rfl W2.heap.size 107 it (.agg #[.int .i64 0, .int .i64 0]) 2 16 Try.underlying49 HT0.out HT1.out HT2.out HT3.out rfl (by decide) (.slice (some ⟨W2.heap.size, 0, none⟩) 0 0) 0 [] rfl HOW.out ⟨b, off, none⟩ P.length cap (encQ P) rfl HEL.out HNW.out HE1.out HLP.out.1 HMAX.out HBYT.out HLO.out (W2.heap.size + 1) HSZ.out ?_); intro gg cap' w1 hown1 hgrow hat hlt2; have HAP := Lib.hid (HAPP.out gg cap' w1 hown1 hgrow); have HLT := Lib.hid hlt2; clear hown1 hgrow hat hlt2 c2 f2 hxx; rw [Nat.zero_add]; have c2 : w1.cell? ⟨x, 2, none⟩ = some (.slice (some ⟨b, off, none⟩) P.length cap) := HAP.out.2.1.cell 2; have f2 : w1.frozen? ⟨x, 2, none⟩ = false := HAP.out.2.1.frozen 2)
  have hgt : W2.heap.size ≤ gg := (HAP.out.1.lt gg rfl).1
  have HGG : Hid (x < gg) := by have := HX.out; show _ < _; omega
  have HR4 := Lib.hid (HAP.out.2.1.set 2 (.slice (some ⟨gg, 0, none⟩) P.length cap'))
  have HO4 : Hid ((w1.setCell ⟨x, 2, none⟩ (.slice (some ⟨gg, 0, none⟩) P.length cap')).ownsRow W2.heap.size 107 2 (.slice (some ⟨gg, 0, none⟩) P.length cap') P.length (encQ P)) := own_fr4 HAP.out.1 (Fr.set (S := fun k => k = x) _ _ _ _ rfl) (fun k e e2 => by injection e with e; have e' : gg = k := e; have := HGG.out; omega)
  have HF4 : Hid (Fr (fun _ => False) W (w1.setCell ⟨x, 2, none⟩ (.slice (some ⟨gg, 0, none⟩) P.length cap'))) := by
    have h1 : Fr (fun k => k = x) W (w1.setCell ⟨x, 2, none⟩ (.slice (some ⟨gg, 0, none⟩) P.length cap')) := ((HF2.out.trans HAP.out.2.2).mono fun _ _ e => e.elim).trans (Fr.set _ _ _ _ rfl)
    exact h1.mono fun k hk e => by have := HGX.out; omega
  clear c2 f2 HAP HLT hgt
  generalize World.setCell w1 _ _ = W4 at HR4 HO4 HF4 ⊢
  have c0 : W4.cell? ⟨x, 0, none⟩ = some (.int .i64 (w : Int)) := HR4.out.cell 0
  have c1 : W4.cell? ⟨x, 1, none⟩ = some (.int .i64 (p : Int)) := HR4.out.cell 1
  have c2 : W4.cell? ⟨x, 2, none⟩ = some (.slice (some ⟨gg, 0, none⟩) P.length cap') := HR4.out.cell 2
  go_wp2
  go_ret2
  obtain ⟨a', cap'', e, hpa, hlo⟩ := own_parts HO4.out
  injection e with e1 e2 e3
  subst e1
  have hx4 := HR4.out.lt
  have hgx := HGX.out
  have hgg := HGG.out
  have hpt : PartsAt W4 gg 0 P := by
    rcases hpa with h | ⟨b', off', e, h1, h2⟩
    · have := HLP.out.1; rw [h] at this; cases this
    · cases e; exact ⟨h1, h2⟩
  have hal : Fr (fun _ => False) W4 (W4.alloc (.cells (rcel w p gg P.length cap' (.slice none 0 0) 0) 106)) := Fr.alloc _ _ _
  exact ⟨W4.heap.size, rfl, ⟨gg, cap', .slice none 0 0, RowAt.new W4 _ _, partsAt_fr hpt hal id, World.ownsRow_nil _ _ _ _, by omega, by omega, Nat.ne_of_lt hpt.1, (fun e => nomatch e), (fun e => nomatch e), HZ.out⟩, HF4.out.trans hal⟩
end Go.Proofs.Ytbjpaemldnoinaa
