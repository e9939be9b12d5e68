/- The walk of the law CostsBounds. -/
import Derived.Test.YtgbbidgmhmbehabLa
namespace Go.Proofs.Ytgbbidgmhmbehab
open Go.RowKit
set_option linter.unusedVariables false

/-- What Preemptible answers where the operation is divisible. -/
def preB (s n d : Int) : Bool := if 0 ≤ d ∧ d < n then d % s == 0 else false
theorem preB_any (s c : Int) (l : List Int) (hl : l.length = 24) (n d : Int) (w : World) (h : okN s c l n) :
    Calls Try.prog 8 #[.agg (tabA s c l), .int .i64 n, .int .i64 d] w fun e w' => e = .returned (.bool (preB s n d)) ∧ Below w.heap.size w w' := by
  unfold preB
  by_cases h1 : 0 ≤ d ∧ d < n
  · rw [if_pos h1]; exact pre_in s c l hl n d w h h1.1 h1.2
  · rw [if_neg h1]
    by_cases h2 : d = n
    · subst h2; exact pre_end s c l hl d w h
    · exact pre_out s c l hl n d w h (by omega)

theorem cost_err (s c : Int) (l : List Int) (hl : l.length = 24) (op b : Int) (h : ¬ (okT s c l ∧ 0 ≤ op ∧ op < 24 ∧ 0 ≤ b ∧ b ≤ 4096)) :
    ∃ e0 : Int, (e0 != 0) = true ∧ ∀ w, Calls Try.prog 4 #[.agg (tabA s c l), .int .i64 op, .int .i64 b] w fun e w' => e = .returned (.tuple #[.int .i64 0, .int .i64 e0]) ∧ Below w.heap.size w w' := by
  by_cases h0 : okT s c l
  · by_cases h1 : 0 ≤ op ∧ op < 24
    · by_cases h2 : b < 0
      · exact ⟨34, by decide, fun w => cost_lo s c l hl op b w h0 h1.1 h1.2 h2⟩
      · exact ⟨34, by decide, fun w => cost_hi s c l hl op b w h0 h1.1 h1.2 (by omega) (by
          by_cases h3 : b ≤ 4096
          · exact absurd ⟨h0, h1.1, h1.2, by omega, h3⟩ h
          · omega)⟩
    · exact ⟨17, by decide, fun w => cost_kind s c l hl op b w h0 (by omega)⟩
  · exact ⟨34, by decide, fun w => cost_bad s c l hl op b w h0⟩

theorem cpy_mono {c a b : Int} (h3 : 0 ≤ c) (h : a ≤ b) : cpy c a ≤ cpy c b := by
  unfold cpy
  exact Int.mul_le_mul_of_nonneg_left (by omega) h3

/-! The sections and what lies behind each -/
/-- Behind the sections before k, y ticks are done; L are all sections. -/
def DoneAt (s n : Int) (L : List Int) (k : Nat) (y : Int) : Prop := (y = n ∧ k = L.length) ∨ (0 ≤ y ∧ y < n ∧ y % s = 0 ∧ secs s (n - y) = L.drop k ∧ k < L.length)

structure Step (s n : Int) (L : List Int) (k : Nat) (y : Int) (x : Int) : Prop where
  at_ : L.getD k 0 = x
  lo : 1 ≤ x
  hi : x ≤ s
  y0 : 0 ≤ y
  le : y + x ≤ n
  next : DoneAt s n L (k + 1) (y + x)
  pre : preB s n (y + x) = decide ((k : Int) < (L.length : Int) - 1)
  mid : 1 < x → preB s n (y + x - 1) = false

theorem drop_head {L : List Int} {k : Nat} {x : Int} {r : List Int} (h : x :: r = L.drop k) : L.getD k 0 = x ∧ r = L.drop (k + 1) := by
  have h1 : L[k]? = some x := by
    have := congrArg (·[0]?) h
    simpa [List.getElem?_drop] using this.symm
  refine ⟨by simp [List.getD, h1], ?_⟩
  have := congrArg List.tail h
  simpa [List.tail_drop] using this

theorem step_of {s n : Int} {L : List Int} {k : Nat} {y : Int} (hs : 1 ≤ s) (h : DoneAt s n L k y) (hk : k < L.length) : ∃ x, Step s n L k y x := by
  rcases h with ⟨_, h⟩ | ⟨h0, h1, h2, h3, _⟩
  · omega
  have hst := secs_step hs (show 0 < n - y by omega)
  rw [h3] at hst
  obtain ⟨e1, e2⟩ := drop_head hst.symm
  obtain ⟨q, hq⟩ : ∃ q, y = s * q := ⟨y / s, by have := Int.mul_ediv_add_emod y s; omega⟩
  have hm : (y + s) % s = 0 := by rw [Int.add_emod_right]; exact h2
  by_cases c : s < n - y
  · rw [if_pos c] at e1 hst
    have hne : L.drop (k + 1) ≠ [] := by
      rw [← e2, secs_step hs (show 0 < n - y - s by omega)]
      simp
    have hk1 : k + 1 < L.length := by
      by_cases h5 : k + 1 < L.length
      · exact h5
      · exact absurd (List.drop_eq_nil_of_le (by omega)) hne
    refine ⟨s, e1, hs, Int.le_refl _, h0, by omega, .inr ⟨by omega, by omega, hm, ?_, hk1⟩, ?_, fun h6 => ?_⟩
    · rw [show n - (y + s) = n - y - s from by omega]; exact e2
    · rw [preB, if_pos (by omega), hm]
      have : (k : Int) < (L.length : Int) - 1 := by omega
      simp [this]
    · rw [preB, if_pos (by omega)]
      have : (y + s - 1) % s = s - 1 := by
        rw [show y + s - 1 = (s - 1) + s * q from by omega, Int.add_mul_emod_self_left, Int.emod_eq_of_lt (by omega) (by omega)]
      rw [this]
      exact beq_eq_false_iff_ne.2 (by omega)
  · rw [if_neg c] at e1 hst
    have hnil : L.drop (k + 1) = [] := by rw [← e2, secs_no (by omega)]
    have hk1 : k + 1 = L.length := by
      have := List.drop_eq_nil_iff.1 hnil
      omega
    refine ⟨n - y, e1, by omega, by omega, h0, by omega, .inl ⟨by omega, hk1⟩, ?_, fun h6 => ?_⟩
    · rw [preB, if_neg (by omega)]
      have : ¬ (k : Int) < (L.length : Int) - 1 := by omega
      simp [this]
    · rw [preB, if_pos (by omega)]
      have : (y + (n - y) - 1) % s = n - y - 1 := by
        rw [show y + (n - y) - 1 = (n - y - 1) + s * q from by omega, Int.add_mul_emod_self_left, Int.emod_eq_of_lt (by omega) (by omega)]
      rw [this]
      exact beq_eq_false_iff_ne.2 (by omega)
theorem done_start {s n : Int} (hs : 1 ≤ s) (hn : 1 ≤ n) : DoneAt s n (secs s n) 0 0 := .inr ⟨by omega, by omega, by simp, by simp, by rw [secs_step hs (by omega)]; simp⟩

/-- The table, and the sections' cells. -/
def BAt (w0 : World) (g : Nat) (s c : Int) (l L : List Int) (g2 : Nat) (w : World) : Prop :=
  TabAt w0 g s c l w ∧ (∀ j, j < L.length → w.cell? ⟨g2, j, none⟩ = some (.int .i64 (L.getD j 0))) ∧ g2 < w.heap.size
theorem BAt.call {w0 : World} {g : Nat} {s c : Int} {l L : List Int} {g2 : Nat} {w w2 : World} (h : BAt w0 g s c l L g2 w) (h2 : Below w.heap.size w w2) : BAt w0 g s c l L g2 w2 :=
  ⟨h.1.call h2, fun j hj => by rw [h2.cell (p := ⟨g2, j, none⟩) h.2.2]; exact h.2.1 j hj, Nat.lt_of_lt_of_le h.2.2 h2.size⟩
theorem ownsL {w : World} {B : Nat} {e : TypeId} {v : Value} {L : List Int} (h : w.ownsRow B e 1 v L.length (L.map (Value.int .i64))) (h0 : 0 < L.length) :
    ∃ g cap, v = .slice (some ⟨g, 0, none⟩) L.length cap ∧ (∀ j, j < L.length → w.cell? ⟨g, j, none⟩ = some (.int .i64 (L.getD j 0))) ∧ g < w.heap.size := by
  rcases h.2 with ⟨_, h2⟩ | ⟨g, cap, cur, rfl, _⟩
  · omega
  · exact ⟨g, cap, rfl, fun j hj => by rw [h.cellAt j (by omega)]; simp [List.getD, List.getElem?_eq_getElem hj], (h.lt g rfl).2⟩

set_option maxHeartbeats 1000000 in
set_option maxRecDepth 100000 in
theorem bounds_err (s c : Int) (l : List Int) (hl : l.length = 24) (op b : Int) (w : World) (h : ¬ (okT s c l ∧ 0 ≤ op ∧ op < 24 ∧ 0 ≤ b ∧ b ≤ 4096)) :
    Calls Try.prog 3 #[.agg (tabA s c l), .int .i64 op, .int .i64 b] w fun e w' => e = .returned (.bool true) ∧ Below w.heap.size w w' := by
  obtain ⟨e0, he, hc⟩ := cost_err s c l hl op b h
  have HC := Lib.hid hc
  have HT := Lib.hid (TabAt.box w s c l 24)
  have HS := Lib.hid (size_tab s c l hl)
  clear hl hc h
  go_enter Try.func3, Try.ntmps3
  go_upto_region 1 with (fail)
  generalize w.alloc _ = wA at HT ⊢
  go_wp2_with (first
    | (refine wpList_load_mid rfl 24 (Operand.tmp 3) rfl w.heap.size 0 rfl (tabL s c l) _ HT.out.whole Try.underlying24 rfl HS.out ?_)
    | (go_at_call 4; refine (HC.out _).mono ?_; rintro e w1 ⟨rfl, hb1⟩)
    | (go_at_call 5; refine (awake_any _).mono ?_; rintro e w2 ⟨rfl, hb2⟩))
  go_ret
  exact ⟨rfl, ((HT.out.call (by assumption)).call (by assumption)).below⟩

set_option maxHeartbeats 1000000 in
set_option maxRecDepth 100000 in
theorem bounds_big (s c : Int) (l : List Int) (hl : l.length = 24) (op b n : Int) (w : World) (h : okT s c l) (ho1 : 0 ≤ op) (ho2 : op < 24) (hb0 : 0 ≤ b) (hb4 : b ≤ 4096) (hn : l.getD op.toNat 0 + cpy c b = n) (hbig : 2000 * s < n) :
    Calls Try.prog 3 #[.agg (tabA s c l), .int .i64 op, .int .i64 b] w fun e w' => e = .returned (.bool true) ∧ Below w.heap.size w w' := by
  have HC := Lib.hid (fun w => cost_ok s c l hl op b w h ho1 ho2 hb0 hb4)
  rw [hn] at HC
  have HT := Lib.hid (TabAt.box w s c l 24)
  have HS := Lib.hid (size_tab s c l hl)
  have s1 := h.1
  have s2 := h.2.1
  clear hl h hn
  go_enter Try.func3, Try.ntmps3
  go_upto_region 1 with (fail)
  generalize w.alloc _ = wA at HT ⊢
  go_upto_region 4 with (first
    | (refine wpList_load_mid rfl 24 (Operand.tmp 3) rfl w.heap.size 0 rfl (tabL s c l) _ HT.out.whole Try.underlying24 rfl HS.out ?_)
    | (go_at_call 4; refine (HC.out _).mono ?_; rintro e w1 ⟨rfl, hb1⟩))
  have HT1 := Lib.hid (HT.out.call hb1)
  have hc0 := HT1.out.1
  clear hb1
  go_wp2_with (go_at_call 5; refine (awake_any _).mono ?_; rintro e w2 ⟨rfl, hb2⟩)
  go_ret
  exact ⟨rfl, (HT1.out.call (by assumption)).below⟩
end Go.Proofs.Ytgbbidgmhmbehab
