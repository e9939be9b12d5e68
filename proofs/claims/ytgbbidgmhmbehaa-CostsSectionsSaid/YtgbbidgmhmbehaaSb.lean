/- The contract of the specification's Longest. -/
import Derived.Test.YtgbbidgmhmbehaaSa
namespace Go.Proofs.Ytgbbidgmhmbehaa
open Go.RowKit
set_option linter.unusedVariables false

theorem ownsL {w : World} {B : Nat} {e : TypeId} {v : Value} {L : List Int} (h : w.ownsRow B e 1 v L.length (L.map (Value.int .i64))) (h0 : 0 < L.length) :
    ∃ g cap, v = .slice (some ⟨g, 0, none⟩) L.length cap ∧ (∀ j, j < L.length → w.cell? ⟨g, j, none⟩ = some (.int .i64 (L.getD j 0))) ∧ g < w.heap.size := by
  rcases h.2 with ⟨_, h2⟩ | ⟨g, cap, cur, rfl, _⟩
  · omega
  · exact ⟨g, cap, rfl, fun j hj => by rw [h.cellAt j (by omega)]; simp [List.getD, List.getElem?_eq_getElem hj], (h.lt g rfl).2⟩
/-- What Sections hands back: L are the sections. -/
def SecL (L : List Int) (w : World) (e : Ending) (w' : World) : Prop :=
  ∃ g cap, e = .returned (.tuple #[.slice (some ⟨g, 0, none⟩) L.length cap, .int .i64 0]) ∧ (∀ j, j < L.length → w'.cell? ⟨g, j, none⟩ = some (.int .i64 (L.getD j 0))) ∧ g < w'.heap.size ∧ Below w.heap.size w w'
theorem SecL_of {s n : Int} {w : World} {e : Ending} {w' : World} (h0 : 0 < (secs s n).length) (h : SecPost s n w e w') : SecL (secs s n) w e w' := by
  obtain ⟨v, rfl, hown, hb⟩ := h
  obtain ⟨g, cap, rfl, hc, hg⟩ := ownsL hown h0
  exact ⟨g, cap, rfl, hc, hg, hb⟩
theorem secs_pos {s n : Int} (hs : 1 ≤ s) (hn : 1 ≤ n) : 0 < (secs s n).length := by rw [secs_step hs (by omega)]; simp
theorem secs_mem {s : Int} (hs : 1 ≤ s) : ∀ (f : Nat) (n : Int), n ≤ f → ∀ x ∈ secs s n, x ≤ s ∧ x ≤ n
  | 0, n, h, x, hx => by rw [secs_no (by omega)] at hx; simp at hx
  | f + 1, n, h, x, hx => by
    by_cases h0 : 0 < n
    · rw [secs_step hs h0] at hx
      rcases List.mem_cons.1 hx with e | e
      · subst e; split <;> omega
      · have := secs_mem hs f (n - s) (by omega) x e
        omega
    · rw [secs_no (by omega)] at hx; simp at hx
theorem secs_le {s n : Int} (hs : 1 ≤ s) (j : Nat) (hj : j < (secs s n).length) : (secs s n).getD j 0 ≤ s ∧ (secs s n).getD j 0 ≤ n := by
  have := secs_mem hs n.toNat n (by omega) (secs s n)[j] (List.getElem_mem _)
  simpa [List.getD, List.getElem?_eq_getElem hj] using this

/-- The first section of an operation that costs x + y. -/
def mins (s y x : Int) : Int := if s < x + y then s else x + y
def mo (s y : Int) (l : List Int) : Nat → Int
  | 0 => 0
  | k + 1 => if mo s y l k < mins s y (l.getD k 0) then mins s y (l.getD k 0) else mo s y l k
theorem mo_succ {s y : Int} {l : List Int} (hs : 1 ≤ s) (hy : 0 ≤ y) (hl : ∀ k, k < 24 → 1 ≤ l.getD k 0) : ∀ k, k < 24 → mo s y l (k + 1) = mins s y (mxN l k)
  | 0, _ => by
    have := hl 0 (by omega)
    simp only [mo, mxN]
    unfold mins
    split <;> split <;> omega
  | k + 1, hk => by
    have ih := mo_succ hs hy hl k (by omega)
    have := hl (k + 1) hk
    rw [mo, ih, mxN]
    unfold mins
    (repeat' split) <;> omega
theorem mo_long {s c : Int} {l : List Int} (hs : 1 ≤ s) (hy : 0 ≤ cpy c 4096) (hl : ∀ k, k < 24 → 1 ≤ l.getD k 0) : mo s (cpy c 4096) l 24 = longV s c l := by
  rw [mo_succ hs hy hl 23 (by omega), mins, longV]
  split <;> split <;> omega
theorem secs_head {s n : Int} (hs : 1 ≤ s) (hn : 1 ≤ n) : (secs s n).getD 0 0 = if s < n then s else n := by
  rw [secs_step hs (by omega)]; rfl

set_option maxHeartbeats 2000000 in
set_option maxRecDepth 100000 in
theorem reflongest_no (s c : Int) (l : List Int) (hl : l.length = 24) (w : World) (h : ¬ okT s c l) :
    Calls Try.prog 19 #[.agg (tabA s c l)] w fun e w' => e = .returned (.int .i64 0) ∧ Below w.heap.size w w' := by
  have HL := Lib.hid hl
  have HT := Lib.hid (TabAt.box w s c l 29)
  have HS := Lib.hid (size_rtab s c l hl)
  have HH := Lib.hid h
  clear hl h
  go_enter Try.func19, Try.ntmps19
  go_upto_region 1 with (fail)
  generalize w.alloc _ = wA at HT ⊢
  go_wp2
  go_loopw [3, 4] (fun m o wr => ∃ k : Nat, k ≤ 24 ∧ o = .int .i64 k ∧ m = .int .i64 0 ∧ Hid (TabAt w w.heap.size s c l wr)) (fun _ o _ => 24 - (intOf o).toNat)
  case atStart => exact ⟨0, by omega, rfl, rfl, HT⟩
  case round =>
    obtain ⟨k, hk, rfl, rfl, HTR⟩ := hrel
    by_cases hlt : k < 24
    · have hki : (k : Int) < 24 := by omega
      go_upto_region 6 with (first
        | (refine wpList_load_mid rfl 29 (Operand.tmp 1) rfl w.heap.size 0 rfl (tabL s c l) _ HTR.out.whole Try.underlying29 rfl HS.out ?_)
        | (go_at_call 7; refine (refcost_bad s c l HL.out _ _ _ HH.out).mono ?_; rintro e w1 ⟨rfl, hb1⟩))
      have HT1 := Lib.hid (HTR.out.call hb1)
      clear hb1
      go_upto_region 7 with (first
        | (refine wpList_load_mid rfl 29 (Operand.tmp 1) rfl w.heap.size 0 rfl (tabL s c l) _ HT1.out.whole Try.underlying29 rfl HS.out ?_)
        | (go_at_call 15; refine (refsections_bad s c l HL.out _ _ HH.out).mono ?_; rintro e w2 ⟨rfl, hb2⟩))
      have HT2 := Lib.hid (HT1.out.call hb2)
      clear hb2
      go_wp2
      go_loop [3, 9] (fun m i => i = .int .i64 0 ∧ m = .int .i64 0) (fun _ _ => 1)
      case atStart => exact ⟨rfl, rfl⟩
      case round =>
        obtain ⟨rfl, rfl⟩ := hrel
        go_wp2
        go_roundw
        case rel => exact ⟨k + 1, by omega, by go_num, rfl, HT2⟩
        case measure => simp [intOf]; omega
    · obtain rfl : k = 24 := by omega
      go_wp2
      go_ret
      exact ⟨rfl, HTR.out.below⟩

/-- What stands in the greatest length behind i sections. -/
def inM (m0 x0 : Int) (i : Nat) : Int := if i = 0 then m0 else if m0 < x0 then x0 else m0

set_option maxHeartbeats 4000000 in
set_option maxRecDepth 100000 in
theorem reflongest_ok (s c : Int) (l : List Int) (hl : l.length = 24) (w : World) (h : okT s c l) :
    Calls Try.prog 19 #[.agg (tabA s c l)] w fun e w' => e = .returned (.int .i64 (longV s c l)) ∧ Below w.heap.size w w' := by
  have HL := Lib.hid hl
  have HT := Lib.hid (TabAt.box w s c l 29)
  have HS := Lib.hid (size_rtab s c l hl)
  have HH := Lib.hid h
  have hy := cpy_bd h.2.2.1 h.2.2.2.1 (show (0 : Int) ≤ 4096 by omega) (show (4096 : Int) ≤ 4096 by omega)
  have HLV := Lib.hid (mo_long (c := c) h.1 hy.1 (fun k hk => (h.cell k (by omega)).1))
  have s1 := h.1
  have HY := Lib.hid hy
  clear hl h hy
  go_enter Try.func19, Try.ntmps19
  go_upto_region 1 with (fail)
  generalize w.alloc _ = wA at HT ⊢
  go_wp2
  go_loopw [3, 4] (fun m o wr => ∃ k : Nat, k ≤ 24 ∧ o = .int .i64 k ∧ m = .int .i64 (mo s (cpy c 4096) l k) ∧ Hid (TabAt w w.heap.size s c l wr)) (fun _ o _ => 24 - (intOf o).toNat)
  case atStart => exact ⟨0, by omega, rfl, rfl, HT⟩
  case round =>
    obtain ⟨k, hk, rfl, rfl, HTR⟩ := hrel
    by_cases hlt : k < 24
    · have hki : (k : Int) < 24 := by omega
      have hcell := HH.out.cell k (by rw [HL.out]; exact hlt)
      have HC : Hid (∀ w, Calls Try.prog 7 #[.agg (tabA s c l), .int .i64 k, .int .i64 4096] w fun e w' => e = .returned (.tuple #[.int .i64 (l.getD k 0 + cpy c 4096), .int .i64 0]) ∧ Below w.heap.size w w') := fun w =>
        refcost_ok s c l HL.out (k : Int) 4096 w HH.out (by omega) hki (by omega) (by omega)
      have hmo : mo s (cpy c 4096) l (k + 1) = if mo s (cpy c 4096) l k < (if s < l.getD k 0 + cpy c 4096 then s else l.getD k 0 + cpy c 4096) then (if s < l.getD k 0 + cpy c 4096 then s else l.getD k 0 + cpy c 4096) else mo s (cpy c 4096) l k := rfl
      have hyy := HY.out
      generalize hm1 : mo s (cpy c 4096) l (k + 1) = m1 at hmo
      have HM1 := Lib.hid hm1
      clear hm1
      generalize mo s (cpy c 4096) l k = m0 at hmo ⊢
      generalize hNN : l.getD k 0 + cpy c 4096 = N at hmo HC
      have n1 : 1 ≤ N := by omega
      have n2 : N ≤ 26600 := by omega
      clear hNN hcell hyy
      have hhd := secs_head s1 n1
      rw [← hhd] at hmo
      have HSEC : Hid (∀ w, Calls Try.prog 15 #[.agg (tabA s c l), .int .i64 N] w (SecL (secs s N) w)) := fun w =>
        (refsections_ok s c l HL.out N w ⟨HH.out, n1, by omega⟩).mono fun _ _ hh => SecL_of (secs_pos s1 n1) hh
      have hLle : ∀ j, j < (secs s N).length → (secs s N).getD j 0 ≤ (secs s N).getD 0 0 := fun j hj => by
        have := secs_le s1 j hj
        rw [hhd]
        split <;> omega
      have hL0 := secs_pos s1 n1
      have hLn : ((secs s N).length : Int) ≤ 26600 := by have := secs_len s1 26600 N (by omega); omega
      clear hhd
      generalize secs s N = L at hmo HSEC hLle hL0 hLn
      have HLLE := Lib.hid hLle
      have HMO : Hid (inM m0 (L.getD 0 0) L.length = m1) := by show _ = _; rw [hmo, inM, if_neg (by omega)]
      clear hLle hmo
      go_upto_region 6 with (first
        | (refine wpList_load_mid rfl 29 (Operand.tmp 1) rfl w.heap.size 0 rfl (tabL s c l) _ HTR.out.whole Try.underlying29 rfl HS.out ?_)
        | (go_at_call 7; refine (HC.out _).mono ?_; rintro e w1 ⟨rfl, hb1⟩))
      have HT1 := Lib.hid (HTR.out.call hb1)
      clear hb1
      go_upto_region 7 with (first
        | (refine wpList_load_mid rfl 29 (Operand.tmp 1) rfl w.heap.size 0 rfl (tabL s c l) _ HT1.out.whole Try.underlying29 rfl HS.out ?_)
        | (go_at_call 15; refine (HSEC.out _).mono ?_; rintro e w2 ⟨g2, cap2, rfl, hcs, hg2, hb2⟩))
      have HT2 := Lib.hid (HT1.out.call hb2)
      have HCS := Lib.hid hcs
      clear hb2 hcs hg2
      go_wp2
      go_loop [3, 9] (fun m i => ∃ j : Nat, j ≤ L.length ∧ i = .int .i64 j ∧ m = .int .i64 (inM m0 (L.getD 0 0) j)) (fun _ i => L.length - (intOf i).toNat)
      case atStart => exact ⟨0, by omega, rfl, rfl⟩
      case round =>
        obtain ⟨j, hj, rfl, rfl⟩ := hrel
        by_cases hjl : j < L.length
        · have hcell := HCS.out j hjl
          have hle := HLLE.out j hjl
          have hji : (j : Int) < (L.length : Int) := by omega
          by_cases hj0 : j = 0
          · subst hj0
            have e1 : inM m0 (L.getD 0 0) 0 = m0 := rfl
            have e2 : inM m0 (L.getD 0 0) (0 + 1) = if m0 < L.getD 0 0 then L.getD 0 0 else m0 := rfl
            rw [e1]
            have HE2 := Lib.hid e2
            clear e1 e2 hle
            generalize L.getD 0 0 = x0 at hcell HE2 ⊢
            by_cases hcmp : m0 < x0
            · go_wp2
              go_round
              case rel => exact ⟨0 + 1, by omega, by go_num, by rw [HE2.out, if_pos hcmp]⟩
              case measure => simp [intOf]; omega
            · have hd : decide (m0 < x0) = false := by simp; omega
              go_wp2
              go_round
              case rel => exact ⟨0 + 1, by omega, by go_num, by rw [HE2.out, if_neg hcmp]⟩
              case measure => simp [intOf]; omega
          · have e1 : inM m0 (L.getD 0 0) (j + 1) = inM m0 (L.getD 0 0) j := by rw [inM, inM, if_neg (by omega), if_neg hj0]
            have hge : L.getD 0 0 ≤ inM m0 (L.getD 0 0) j := by rw [inM, if_neg hj0]; split <;> omega
            have HE1 := Lib.hid e1
            clear e1
            generalize hz : inM m0 (L.getD 0 0) j = z at hge HE1 ⊢
            clear hz
            generalize L.getD j 0 = x at hcell hle
            have hd : decide (z < x) = false := by simp; omega
            clear hle hge
            go_wp2
            go_round
            case rel => exact ⟨j + 1, by omega, by go_num, by rw [HE1.out]⟩
            case measure => simp [intOf]; omega
        · obtain rfl : j = L.length := by omega
          rw [HMO.out]
          have hd : decide ((L.length : Int) < (L.length : Int)) = false := by simp
          go_wp2
          go_roundw
          case rel => exact ⟨k + 1, by omega, by go_num, by rw [HM1.out], HT2⟩
          case measure => simp [intOf]; omega
    · obtain rfl : k = 24 := by omega
      go_wp2
      go_ret
      exact ⟨ret_int HLV.out, HTR.out.below⟩

/-- What both Longests answer. -/
theorem long_both (s c : Int) (l : List Int) (hl : l.length = 24) : ∃ v : Int,
    (∀ w, Calls Try.prog 18 #[.agg (tabA s c l)] w fun e w' => e = .returned (.int .i64 v) ∧ Below w.heap.size w w') ∧
    (∀ w, Calls Try.prog 19 #[.agg (tabA s c l)] w fun e w' => e = .returned (.int .i64 v) ∧ Below w.heap.size w w') := by
  by_cases h : okT s c l
  · exact ⟨_, fun w => longest_ok s c l hl w h, fun w => reflongest_ok s c l hl w h⟩
  · exact ⟨_, fun w => longest_no s c l hl w h, fun w => reflongest_no s c l hl w h⟩
end Go.Proofs.Ytgbbidgmhmbehaa
