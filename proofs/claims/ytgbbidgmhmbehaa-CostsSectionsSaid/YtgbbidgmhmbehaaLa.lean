/- The contracts of slices.Max (at []int64) and costs.Longest. -/
import Derived.Test.YtgbbidgmhmbehaaCg
namespace Go.Proofs.Ytgbbidgmhmbehaa
open Go.RowKit
set_option linter.unusedVariables false

/-- The greatest of the first k + 1 numbers. -/
def mxN (l : List Int) : Nat → Int
  | 0 => l.getD 0 0
  | k + 1 => if mxN l k < l.getD (k + 1) 0 then l.getD (k + 1) 0 else mxN l k
theorem mxN_ge (l : List Int) : ∀ (k j : Nat), j ≤ k → l.getD j 0 ≤ mxN l k
  | 0, j, h => by obtain rfl : j = 0 := by omega
                  exact Int.le_refl _
  | k + 1, j, h => by
    rw [mxN]
    by_cases e : j = k + 1
    · subst e; split <;> omega
    · have := mxN_ge l k j (by omega)
      split <;> omega
theorem mxN_at (l : List Int) : ∀ k : Nat, ∃ j, j ≤ k ∧ mxN l k = l.getD j 0
  | 0 => ⟨0, by omega, rfl⟩
  | k + 1 => by
    obtain ⟨j, hj, e⟩ := mxN_at l k
    rw [mxN]
    split
    · exact ⟨k + 1, by omega, rfl⟩
    · exact ⟨j, by omega, e⟩

set_option maxHeartbeats 1000000 in
set_option maxRecDepth 100000 in
theorem max_any (b off cap : Nat) (l : List Int) (h0 : 0 < l.length) (hm : l.length ≤ 1000000) (w : World) (hc : ∀ i, i < l.length → w.cell? ⟨b, off + i, none⟩ = some (.int .i64 (l.getD i 0))) :
    Calls Try.prog 27 #[.slice (some ⟨b, off, none⟩) l.length cap] w fun e w' => e = .returned (.int .i64 (mxN l (l.length - 1))) ∧ w = w' := by
  have HC := Lib.hid hc
  have hc0 := hc 0 h0
  rw [Nat.add_zero] at hc0
  clear hc
  have hd : decide ((l.length : Int) < 1) = false := by simp; omega
  have hi : (0 : Int) < (l.length : Int) := by omega
  go_enter Try.func27, Try.ntmps27
  go_wp2
  clear hc0
  go_loop [3, 4] (fun m i => ∃ k : Nat, k < l.length ∧ i = .int .i64 ((k : Int) + 1) ∧ m = .int .i64 (mxN l k)) (fun _ i => l.length + 1 - (intOf i).toNat)
  case atStart => exact ⟨0, h0, rfl, by show _ = Value.int .i64 (l.getD 0 0); simp [List.getD, List.getElem?_eq_getElem h0]⟩
  case round =>
    obtain ⟨k, hk, rfl, rfl⟩ := hrel
    by_cases hlt : k + 1 < l.length
    · have hcell := HC.out (k + 1) hlt
      have HX : Hid (mxN l (k + 1) = if mxN l k < l.getD (k + 1) 0 then l.getD (k + 1) 0 else mxN l k) := rfl
      have hi1 : (k : Int) + 1 < (l.length : Int) := by omega
      generalize hx : l.getD (k + 1) 0 = x at hcell HX
      generalize hy : mxN l k = y at HX ⊢
      clear hx hy
      by_cases hxy : y < x
      · have HV : Hid (x = mxN l (k + 1)) := by show _ = _; rw [HX.out, if_pos hxy]
        clear HX
        go_wp2
        go_round
        case rel => exact ⟨k + 1, hlt, by go_num, by rw [← HV.out]⟩
        case measure => simp [intOf]; omega
      · have HV : Hid (y = mxN l (k + 1)) := by show _ = _; rw [HX.out, if_neg hxy]
        clear HX
        go_wp2
        go_round
        case rel => exact ⟨k + 1, hlt, by go_num, by rw [← HV.out]⟩
        case measure => simp [intOf]; omega
    · have HV : Hid (mxN l k = mxN l (l.length - 1)) := by show _ = _; rw [show l.length - 1 = k from by omega]
      have hd2 : decide ((k : Int) + 1 < (l.length : Int)) = false := by simp; omega
      go_wp2
      go_ret
      exact ⟨ret_int HV.out, rfl⟩

/-- What Longest answers for a valid table. -/
def longV (s c : Int) (l : List Int) : Int := if mxN l 23 + cpy c 4096 < s then mxN l 23 + cpy c 4096 else s

set_option maxHeartbeats 1000000 in
set_option maxRecDepth 100000 in
theorem longest_no (s c : Int) (l : List Int) (hl : l.length = 24) (w : World) (h : ¬ okT s c l) :
    Calls Try.prog 18 #[.agg (tabA s c l)] w fun e w' => e = .returned (.int .i64 0) ∧ Below w.heap.size w w' := by
  have HL := Lib.hid hl
  have HT := Lib.hid (TabAt.box w s c l 24)
  have HS := Lib.hid (size_tab s c l hl)
  have HH := Lib.hid h
  clear hl h
  go_enter Try.func18, Try.ntmps18
  go_wp2_with (first
    | (refine wpList_load_mid rfl 24 (Operand.tmp 1) rfl w.heap.size 0 rfl (tabL s c l) _ HT.out.whole Try.underlying24 rfl HS.out ?_)
    | (go_at_call 9; refine (check_no s c l HL.out _ HH.out).mono ?_; rintro e w1 ⟨rfl, hb⟩))
  go_ret
  exact ⟨rfl, (HT.out.call hb).below⟩

set_option maxHeartbeats 1000000 in
set_option maxRecDepth 100000 in
theorem longest_ok (s c : Int) (l : List Int) (hl : l.length = 24) (w : World) (h : okT s c l) :
    Calls Try.prog 18 #[.agg (tabA s c l)] w fun e w' => e = .returned (.int .i64 (longV s c l)) ∧ Below w.heap.size w w' := by
  have HL := Lib.hid hl
  have HT := Lib.hid (TabAt.box w s c l 24)
  have HS := Lib.hid (size_tab s c l hl)
  have HH := Lib.hid h
  have hx : 1 ≤ mxN l 23 ∧ mxN l 23 ≤ 1000 := by
    obtain ⟨j, hj, e⟩ := mxN_at l 23
    rw [e]
    exact h.cell j (by omega)
  have hy := cpy_bd h.2.2.1 h.2.2.2.1 (show (0 : Int) ≤ 4096 by omega) (show (4096 : Int) ≤ 4096 by omega)
  obtain ⟨hx1, hx2⟩ := hx
  obtain ⟨hy1, hy2⟩ := hy
  clear hl h
  go_enter Try.func18, Try.ntmps18
  go_wp2_with (first
    | (refine wpList_load_mid rfl 24 (Operand.tmp 1) rfl w.heap.size 0 rfl (tabL s c l) _ HT.out.whole Try.underlying24 rfl HS.out ?_)
    | (go_at_call 9; refine (check_ok s c l HL.out _ HH.out).mono ?_; rintro e w1 ⟨rfl, hb⟩))
  have HT1 := Lib.hid (HT.out.call hb)
  clear hb HT
  have HRG : Hid (∀ v, (∃ p : Regrown, v = Sort.grow (redrawn w1 p.d) p.os) → v.rangeAt w.heap.size 0 (tabL s c l)) := fun v ⟨p, hp⟩ j x hx => by rw [hp]; exact cell_regrown (HT1.out.whole j x hx) _ _
  have HC := Lib.hid (fun v => copying_any s c l 4096 v HH.out.2.2.1 HH.out.2.2.2.1 (by omega) (by omega))
  have HM : Hid (∀ d os, Calls Try.prog 27 #[.slice (some ⟨w.heap.size, 2, none⟩) 24 24] (Sort.grow (redrawn w1 d) os) fun e w' => e = .returned (.int .i64 (mxN l 23)) ∧ Sort.grow (redrawn w1 d) os = w') := fun d os => by
    have := max_any w.heap.size 2 24 l (by rw [HL.out]; omega) (by rw [HL.out]; omega) (Sort.grow (redrawn w1 d) os) (fun i hi => cell_regrown (HT1.out.cell i hi) d os)
    rw [HL.out] at this
    exact this
  have hwr : IntKind.i64.wrap (mxN l 23 + cpy c 4096) = mxN l 23 + cpy c 4096 := IntWalk.i64_in _ (by omega)
  have HLV : Hid (longV s c l = if mxN l 23 + cpy c 4096 < s then mxN l 23 + cpy c 4096 else s) := rfl
  generalize mxN l 23 = x at HM hwr hx1 hx2 HLV
  generalize cpy c 4096 = y at HC hwr hy1 hy2 HLV
  refine wp_region_quiet_below (by kernel_rfl) (by kernel_rfl) ?_
  repeat (first
    | (refine BigFrame.wpQuiet_want rfl (fun K hK => ?_)
       refine quiet_load_mid 24 _ rfl w.heap.size 0 rfl (tabL s c l) _ HRG.out Try.underlying24 rfl HS.out ?_
       refine hK _ ?_
       clear hK K)
    | go_big_quiet_skip
    | quiet_step (first
      | (go_at_call 27; exact Calls.regrown_of ((HM.out _ _).mono fun _ _ ⟨a, b⟩ => ⟨a, b ▸ Below.refl _ _⟩))
      | (go_at_call 23; exact Calls.regrown_of (HC.out _))))
  refine wpQuiet_nil ?_
  intro _ hw'
  obtain ⟨⟨dq, osq⟩, hw''⟩ := hw'
  subst hw''
  have HB : Hid (Below w.heap.size w (Sort.grow (redrawn w1 dq) osq)) := below_call HT1.out.below (below_regrown _ _ _)
  have hc0 := cell_regrown HT1.out.1 dq osq
  by_cases hc : x + y < s
  · have HV : Hid (x + y = longV s c l) := by show _ = _; rw [HLV.out, if_pos hc]
    go_wp2
    go_ret
    exact ⟨ret_int HV.out, HB.out⟩
  · have HV : Hid (s = longV s c l) := by show _ = _; rw [HLV.out, if_neg hc]
    go_wp2
    go_ret
    exact ⟨ret_int HV.out, HB.out⟩
end Go.Proofs.Ytgbbidgmhmbehaa
