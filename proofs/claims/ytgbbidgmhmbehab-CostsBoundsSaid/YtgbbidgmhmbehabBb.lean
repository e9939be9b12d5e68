/- The walk of the law CostsBounds, where the cost is small enough. -/
import Derived.Test.YtgbbidgmhmbehabBa
namespace Go.Proofs.Ytgbbidgmhmbehab
open Go.RowKit
set_option linter.unusedVariables false

/-- What Sections hands back: L are the sections. -/
def SecL (L : List Int) (w : World) (e : Ending) (w' : World) : Prop :=
  ∃ g cap, e = .returned (.tuple #[.slice (some ⟨g, 0, none⟩) L.length cap, .int .i64 0]) ∧ (∀ j, j < L.length → w'.cell? ⟨g, j, none⟩ = some (.int .i64 (L.getD j 0))) ∧ g < w'.heap.size ∧ Below w.heap.size w w'
theorem sec_L (s c : Int) (l : List Int) (hl : l.length = 24) (n : Int) (w : World) (h : okN s c l n) (h0 : 0 < (secs s n).length) :
    Calls Try.prog 6 #[.agg (tabA s c l), .int .i64 n] w (SecL (secs s n) w) := by
  refine (sections_ok s c l hl n w h).mono ?_
  rintro e w' ⟨v, rfl, hown, hb⟩
  obtain ⟨g, cap, rfl, hc, hg⟩ := ownsL hown h0
  exact ⟨g, cap, rfl, hc, hg, hb⟩
theorem getD_mem {L : List Int} {k : Nat} (h : k < L.length) : L[k] = L.getD k 0 := by simp [List.getD, List.getElem?_eq_getElem h]

set_option maxHeartbeats 4000000 in
set_option maxRecDepth 100000 in
theorem bounds_main (s c : Int) (l : List Int) (hl : l.length = 24) (op b n : Int) (w : World) (h : okT s c l) (ho1 : 0 ≤ op) (ho2 : op < 24) (hb0 : 0 ≤ b) (hb4 : b ≤ 4096) (hn : l.getD op.toNat 0 + cpy c b = n) (hsm : n ≤ 2000 * s) :
    Calls Try.prog 3 #[.agg (tabA s c l), .int .i64 op, .int .i64 b] w fun e w' => e = .returned (.bool true) ∧ Below w.heap.size w w' := by
  have HC := Lib.hid (fun w => cost_ok s c l hl op b w h ho1 ho2 hb0 hb4)
  rw [hn] at HC
  have s1 := h.1
  have s2 := h.2.1
  have hop := h.cell op.toNat (by omega)
  have hcb := cpy_bd h.2.2.1 h.2.2.2.1 hb0 hb4
  have hmx := mxN_ge l 23 op.toNat (by omega)
  have hcm := cpy_mono h.2.2.1 hb4
  have n1 : 1 ≤ n := by omega
  have n2 : n ≤ 26600 := by omega
  have hN : okN s c l n := ⟨h, n1, by omega⟩
  have hlo : ∀ x, x ≤ s → x ≤ n → x ≤ longV s c l := fun x h1 h2 => by unfold longV; split <;> omega
  have hls : longV s c l ≤ s := by unfold longV; split <;> omega
  have HLO := Lib.hid hlo
  have HN := Lib.hid hN
  have HH := Lib.hid h
  have HL := Lib.hid hl
  have HT := Lib.hid (TabAt.box w s c l 24)
  have HS := Lib.hid (size_tab s c l hl)
  have HB1 : Hid (b < 4096 → ∃ m, n ≤ m ∧ ∀ w, Calls Try.prog 4 #[.agg (tabA s c l), .int .i64 op, .int .i64 (b + 1)] w fun e w' => e = .returned (.tuple #[.int .i64 m, .int .i64 0]) ∧ Below w.heap.size w w') := fun hb =>
    ⟨l.getD op.toNat 0 + cpy c (b + 1), by have := cpy_mono (c := c) h.2.2.1 (show b ≤ b + 1 by omega); omega, fun w => cost_ok s c l hl op (b + 1) w h ho1 ho2 (by omega) (by omega)⟩
  have hLl : ((secs s n).length : Int) ≤ n := by have := secs_len s1 n.toNat n (by omega); omega
  have hL0 : 0 < (secs s n).length := by rw [secs_step s1 (by omega)]; simp
  have HSTART := Lib.hid (done_start s1 n1)
  have hde : decide (s < longV s c l) = false := by simp; omega
  have hdb : decide (2000 * s < n) = false := by simp; omega
  clear hop hcb hmx hcm hN hlo h hl hn
  have HSEC := Lib.hid (fun w => sec_L s c l HL.out n w HN.out hL0)
  have HLONG := Lib.hid (fun w => longest_ok s c l HL.out w HH.out)
  generalize hLL : secs s n = L at hLl hL0 HSTART HSEC
  have HLL := Lib.hid hLL
  clear hLL
  have hne : ((L.length : Int) == 0) = false := beq_eq_false_iff_ne.2 (by omega)
  generalize longV s c l = lv at hls HLO hde HLONG
  go_enter Try.func3, Try.ntmps3
  go_upto_region 1 with (fail)
  generalize w.alloc _ = wA at HT ⊢
  go_upto_region 4 with (first
    | (refine wpList_load_mid rfl 24 (Operand.tmp 3) rfl w.heap.size 0 rfl (tabL s c l) _ HT.out.whole Try.underlying24 rfl HS.out ?_)
    | (go_at_call 4; refine (HC.out _).mono ?_; rintro e w1 ⟨rfl, hb1⟩))
  have HT1 := Lib.hid (HT.out.call hb1)
  have hc0 := HT1.out.1
  clear hb1 HT
  go_upto_region 6 with (fail)
  clear hc0
  go_upto_region 7 with (first
    | (refine wpList_load_mid rfl 24 (Operand.tmp 3) rfl w.heap.size 0 rfl (tabL s c l) _ HT1.out.whole Try.underlying24 rfl HS.out ?_)
    | (go_at_call 6; refine (HSEC.out _).mono ?_; rintro e w2 ⟨g2, cap2, rfl, hcs, hg2, hb2⟩))
  have HB2 : Hid (BAt w w.heap.size s c l L g2 w2) := ⟨HT1.out.call hb2, hcs, hg2⟩
  clear hb2 hcs hg2 HT1
  go_upto_region 8 with (first
    | (refine wpList_load_mid rfl 24 (Operand.tmp 3) rfl w.heap.size 0 rfl (tabL s c l) _ HB2.out.1.whole Try.underlying24 rfl HS.out ?_)
    | (go_at_call 7; refine (HLONG.out _).mono ?_; rintro e w3 ⟨rfl, hb3⟩))
  have HB3 := Lib.hid (HB2.out.call hb3)
  clear hb3 HB2
  have hc0 := HB3.out.1.1
  go_wp2
  clear hc0
  go_loopw [11, 12] (fun sm i wr => ∃ (k : Nat) (y : Int), k ≤ L.length ∧ i = .int .i64 k ∧ sm = .int .i64 y ∧ Hid (DoneAt s n L k y) ∧ Hid (BAt w w.heap.size s c l L g2 wr)) (fun _ i _ => L.length - (intOf i).toNat)
  case atStart => exact ⟨0, 0, by omega, rfl, rfl, HSTART, HB3⟩
  case round =>
    obtain ⟨k, y, hk, rfl, rfl, HD, HBR⟩ := hrel
    by_cases hlt : k < L.length
    · obtain ⟨x, hx⟩ := step_of s1 HD.out hlt
      have hcell := HBR.out.2.1 k hlt
      rw [hx.at_] at hcell
      have x1 := hx.lo
      have x2 := hx.hi
      have x3 := HLO.out x hx.hi (by have := hx.le; have := hx.y0; omega)
      have y0 := hx.y0
      have y1 := hx.le
      have HX := Lib.hid hx
      have hki : (k : Int) < (L.length : Int) := by omega
      have d1 : decide (x < 1) = false := by simp; omega
      have d2 : decide (lv < x) = false := by simp; omega
      have d3 : decide (n < y + x) = false := by simp; omega
      clear hx
      by_cases hone : 1 < x
      · have hp2 := HX.out.mid hone
        by_cases hlast : (k : Int) < (L.length : Int) - 1
        · have hp1 : preB s n (y + x) = true := by rw [HX.out.pre]; simpa using hlast
          go_upto_region 17 with (fail)
          clear hcell
          go_wp2_with (first
            | (refine wpList_load_mid_g rfl 24 (Operand.tmp 3) rfl w.heap.size 0 rfl (tabL s c l) _ HBR.out.1.whole Try.underlying24 rfl HS.out ?_)
            | (go_at_call 8; refine (preB_any s c l HL.out n _ _ HN.out).mono ?_; rintro e w4 ⟨rfl, hb4⟩; have HB4 := Lib.hid (HBR.out.call hb4); clear hb4; have hcell4 : w4.cell? ⟨g2, k, none⟩ = some (.int .i64 x) := by rw [HB4.out.2.1 k hlt, HX.out.at_])
            | (refine wpList_load_mid_g rfl 24 (Operand.tmp 3) rfl w.heap.size 0 rfl (tabL s c l) _ HB4.out.1.whole Try.underlying24 rfl HS.out ?_)
            | (go_at_call 8; refine (preB_any s c l HL.out n _ _ HN.out).mono ?_; rintro e w5 ⟨rfl, hb5⟩; have HB5 := Lib.hid (HB4.out.call hb5); clear hb5))
          go_roundw
          case rel => exact ⟨k + 1, y + x, by omega, by go_num, rfl, HX.out.next, HB5⟩
          case measure => simp [intOf]; omega
        · have hp1 : preB s n (y + x) = false := by rw [HX.out.pre]; simpa using hlast
          have d5 : decide ((k : Int) < (L.length : Int) - 1) = false := by simp; omega
          go_upto_region 17 with (fail)
          clear hcell
          go_wp2_with (first
            | (refine wpList_load_mid_g rfl 24 (Operand.tmp 3) rfl w.heap.size 0 rfl (tabL s c l) _ HBR.out.1.whole Try.underlying24 rfl HS.out ?_)
            | (go_at_call 8; refine (preB_any s c l HL.out n _ _ HN.out).mono ?_; rintro e w4 ⟨rfl, hb4⟩; have HB4 := Lib.hid (HBR.out.call hb4); clear hb4; have hcell4 : w4.cell? ⟨g2, k, none⟩ = some (.int .i64 x) := by rw [HB4.out.2.1 k hlt, HX.out.at_])
            | (refine wpList_load_mid_g rfl 24 (Operand.tmp 3) rfl w.heap.size 0 rfl (tabL s c l) _ HB4.out.1.whole Try.underlying24 rfl HS.out ?_)
            | (go_at_call 8; refine (preB_any s c l HL.out n _ _ HN.out).mono ?_; rintro e w5 ⟨rfl, hb5⟩; have HB5 := Lib.hid (HB4.out.call hb5); clear hb5))
          go_roundw
          case rel => exact ⟨k + 1, y + x, by omega, by go_num, rfl, HX.out.next, HB5⟩
          case measure => simp [intOf]; omega
      · have d4 : decide (1 < x) = false := by simp; omega
        by_cases hlast : (k : Int) < (L.length : Int) - 1
        · have hp1 : preB s n (y + x) = true := by rw [HX.out.pre]; simpa using hlast
          go_upto_region 17 with (fail)
          clear hcell
          go_wp2_with (first
            | (refine wpList_load_mid_g rfl 24 (Operand.tmp 3) rfl w.heap.size 0 rfl (tabL s c l) _ HBR.out.1.whole Try.underlying24 rfl HS.out ?_)
            | (go_at_call 8; refine (preB_any s c l HL.out n _ _ HN.out).mono ?_; rintro e w4 ⟨rfl, hb4⟩; have HB4 := Lib.hid (HBR.out.call hb4); clear hb4; have hcell4 : w4.cell? ⟨g2, k, none⟩ = some (.int .i64 x) := by rw [HB4.out.2.1 k hlt, HX.out.at_])
            | (refine wpList_load_mid_g rfl 24 (Operand.tmp 3) rfl w.heap.size 0 rfl (tabL s c l) _ HB4.out.1.whole Try.underlying24 rfl HS.out ?_)
            | (go_at_call 8; refine (preB_any s c l HL.out n _ _ HN.out).mono ?_; rintro e w5 ⟨rfl, hb5⟩; have HB5 := Lib.hid (HB4.out.call hb5); clear hb5))
          go_roundw
          case rel => exact ⟨k + 1, y + x, by omega, by go_num, rfl, HX.out.next, HB4⟩
          case measure => simp [intOf]; omega
        · have hp1 : preB s n (y + x) = false := by rw [HX.out.pre]; simpa using hlast
          have d5 : decide ((k : Int) < (L.length : Int) - 1) = false := by simp; omega
          go_upto_region 17 with (fail)
          clear hcell
          go_wp2_with (first
            | (refine wpList_load_mid_g rfl 24 (Operand.tmp 3) rfl w.heap.size 0 rfl (tabL s c l) _ HBR.out.1.whole Try.underlying24 rfl HS.out ?_)
            | (go_at_call 8; refine (preB_any s c l HL.out n _ _ HN.out).mono ?_; rintro e w4 ⟨rfl, hb4⟩; have HB4 := Lib.hid (HBR.out.call hb4); clear hb4; have hcell4 : w4.cell? ⟨g2, k, none⟩ = some (.int .i64 x) := by rw [HB4.out.2.1 k hlt, HX.out.at_])
            | (refine wpList_load_mid_g rfl 24 (Operand.tmp 3) rfl w.heap.size 0 rfl (tabL s c l) _ HB4.out.1.whole Try.underlying24 rfl HS.out ?_)
            | (go_at_call 8; refine (preB_any s c l HL.out n _ _ HN.out).mono ?_; rintro e w5 ⟨rfl, hb5⟩; have HB5 := Lib.hid (HB4.out.call hb5); clear hb5))
          go_roundw
          case rel => exact ⟨k + 1, y + x, by omega, by go_num, rfl, HX.out.next, HB4⟩
          case measure => simp [intOf]; omega
    · obtain rfl : k = L.length := by omega
      obtain rfl : y = n := by
        rcases HD.out with ⟨e, _⟩ | ⟨_, _, _, _, e⟩
        · exact e
        · omega
      have hdd : decide ((L.length : Int) < (L.length : Int)) = false := by simp
      have hdn : (y != y) = false := by simp
      clear HD
      by_cases hb : b < 4096
      · obtain ⟨m, hm, hcm⟩ := HB1.out hb
        have HCM := Lib.hid hcm
        have d6 : decide (m < y) = false := by simp; omega
        clear hcm
        go_upto_region 22 with (fail)
        go_wp2_with (first
          | (refine wpList_load_mid rfl 24 (Operand.tmp 3) rfl w.heap.size 0 rfl (tabL s c l) _ HBR.out.1.whole Try.underlying24 rfl HS.out ?_)
          | (go_at_call 4; refine (HCM.out _).mono ?_; rintro e w6 ⟨rfl, hb6⟩)
          | (go_at_call 5; refine (awake_any _).mono ?_; rintro e w7 ⟨rfl, hb7⟩))
        go_ret
        exact ⟨rfl, ((HBR.out.1.call (by assumption)).call (by assumption)).below⟩
      · have d6 : decide (b < 4096) = false := by simp; omega
        go_wp2_with (go_at_call 5; refine (awake_any _).mono ?_; rintro e w7 ⟨rfl, hb7⟩)
        go_ret
        exact ⟨rfl, (HBR.out.1.call (by assumption)).below⟩

theorem bounds_walk (s c : Int) (l : List Int) (hl : l.length = 24) (op b : Int) (w : World) :
    Calls Try.prog 3 #[.agg (tabA s c l), .int .i64 op, .int .i64 b] w fun e w' => e = .returned (.bool true) ∧ Below w.heap.size w w' := by
  by_cases h : okT s c l ∧ 0 ≤ op ∧ op < 24 ∧ 0 ≤ b ∧ b ≤ 4096
  · by_cases h2 : l.getD op.toNat 0 + cpy c b ≤ 2000 * s
    · exact bounds_main s c l hl op b _ w h.1 h.2.1 h.2.2.1 h.2.2.2.1 h.2.2.2.2 rfl h2
    · exact bounds_big s c l hl op b _ w h.1 h.2.1 h.2.2.1 h.2.2.2.1 h.2.2.2.2 rfl (by omega)
  · exact bounds_err s c l hl op b w h
end Go.Proofs.Ytgbbidgmhmbehab
