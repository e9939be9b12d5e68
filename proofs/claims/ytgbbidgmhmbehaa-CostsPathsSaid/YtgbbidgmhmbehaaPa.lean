/- The contract of costs.Path. -/
import Derived.Test.YtgbbidgmhmbehaaRb
namespace Go.Proofs.Ytgbbidgmhmbehaa
open Go.RowKit
set_option linter.unusedVariables false

/-- What Cost answers for a valid table. -/
def costE (op n : Int) : Int := if op < 0 ∨ 24 ≤ op then 17 else if n < 0 ∨ 4096 < n then 34 else 0
def costN (c : Int) (l : List Int) (op n : Int) : Int := if costE op n = 0 then l.getD op.toNat 0 + cpy c n else 0
theorem costV_at {s c : Int} {l : List Int} (h : okT s c l) (op n : Int) : costV s c l op n (costN c l op n) (costE op n) := by
  unfold costN costE
  by_cases h1 : op < 0 ∨ 24 ≤ op
  · exact .inr (.inl ⟨h, h1, by simp [h1], by simp [h1]⟩)
  · by_cases h2 : n < 0 ∨ 4096 < n
    · exact .inr (.inr (.inl ⟨h, by omega, by omega, h2, by simp [h1, h2], by simp [h1, h2]⟩))
    · exact .inr (.inr (.inr ⟨h, by omega, by omega, by omega, by omega, by simp [h1, h2], by simp [h1, h2]⟩))
theorem costN_bd {s c : Int} {l : List Int} (h : okT s c l) (hl : l.length = 24) (op n : Int) : 0 ≤ costN c l op n ∧ costN c l op n ≤ 26600 := by
  unfold costN
  split
  · rename_i he
    unfold costE at he
    split at he
    · omega
    · split at he
      · omega
      · have := h.cell op.toNat (by omega)
        have := cpy_bd (c := c) (n := n) h.2.2.1 h.2.2.2.1 (by omega) (by omega)
        omega
  · omega

/-- What Path answers for a valid table. -/
def pathF (c : Int) (l : List Int) : List (Int × Int) → Int → Int × Int
  | [], sum => (sum, 0)
  | x :: r, sum => if costE x.1 x.2 = 0 then pathF c l r (sum + costN c l x.1 x.2) else (0, costE x.1 x.2)

/-- The calls lie at block b from offset off on. -/
def CallsAt (w : World) (b off : Nat) (C : List (Int × Int)) : Prop :=
  b < w.heap.size ∧ ∀ i, i < C.length → w.cell? ⟨b, off + i * 2, none⟩ = some (.int .i64 (C.getD i (0, 0)).1) ∧ w.cell? ⟨b, off + i * 2 + 1, none⟩ = some (.int .i64 (C.getD i (0, 0)).2)
theorem CallsAt.call {w w2 : World} {b off : Nat} {C : List (Int × Int)} (h : CallsAt w b off C) (hb : Below w.heap.size w w2) : CallsAt w2 b off C :=
  ⟨Nat.lt_of_lt_of_le h.1 hb.size, fun i hi => ⟨by rw [hb.cell (p := ⟨b, off + i * 2, none⟩) h.1]; exact (h.2 i hi).1, by rw [hb.cell (p := ⟨b, off + i * 2 + 1, none⟩) h.1]; exact (h.2 i hi).2⟩⟩
theorem drop_at {C : List (Int × Int)} {k : Nat} (h : k < C.length) : C.drop k = C.getD k (0, 0) :: C.drop (k + 1) := by
  rw [List.drop_eq_getElem_cons h]; simp [List.getD, List.getElem?_eq_getElem h]

set_option maxHeartbeats 1000000 in
set_option maxRecDepth 100000 in
theorem path_bad (s c : Int) (l : List Int) (hl : l.length = 24) (a : Option Addr) (n cap : Nat) (w : World) (h : ¬ okT s c l) :
    Calls Try.prog 20 #[.agg (tabA s c l), .slice a n cap] w fun e w' => e = .returned (.tuple #[.int .i64 0, .int .i64 34]) ∧ Below w.heap.size w w' := by
  have HL := Lib.hid hl
  have HT := Lib.hid (TabAt.box w s c l 24)
  have HS := Lib.hid (size_tab s c l hl)
  have HH := Lib.hid h
  clear hl h
  go_enter Try.func20, Try.ntmps20
  go_wp2_with (first
    | (refine wpList_load_mid rfl 24 (Operand.tmp 2) rfl w.heap.size 0 rfl (tabL s c l) _ HT.out.whole Try.underlying24 rfl HS.out ?_)
    | (go_at_call 9; refine (check_no s c l HL.out _ HH.out).mono ?_; rintro e w1 ⟨rfl, hb⟩))
  go_ret2
  exact ⟨rfl, (HT.out.call hb).below⟩

set_option maxHeartbeats 1000000 in
set_option maxRecDepth 100000 in
theorem path_long (s c : Int) (l : List Int) (hl : l.length = 24) (a : Option Addr) (n cap : Nat) (w : World) (h : okT s c l) (hn : 1000 < n) (hm : n ≤ 9223372036854775807) :
    Calls Try.prog 20 #[.agg (tabA s c l), .slice a n cap] w fun e w' => e = .returned (.tuple #[.int .i64 0, .int .i64 18]) ∧ Below w.heap.size w w' := by
  have HL := Lib.hid hl
  have HT := Lib.hid (TabAt.box w s c l 24)
  have HS := Lib.hid (size_tab s c l hl)
  have HH := Lib.hid h
  have hni : (1000 : Int) < (n : Int) := by omega
  clear hl h
  go_enter Try.func20, Try.ntmps20
  go_wp2_with (first
    | (refine wpList_load_mid rfl 24 (Operand.tmp 2) rfl w.heap.size 0 rfl (tabL s c l) _ HT.out.whole Try.underlying24 rfl HS.out ?_)
    | (go_at_call 9; refine (check_ok s c l HL.out _ HH.out).mono ?_; rintro e w1 ⟨rfl, hb⟩))
  go_ret2
  exact ⟨rfl, (HT.out.call hb).below⟩

set_option maxHeartbeats 2000000 in
set_option maxRecDepth 100000 in
theorem path_ok (s c : Int) (l : List Int) (hl : l.length = 24) (b off cap : Nat) (C : List (Int × Int)) (w : World) (h : okT s c l) (hn : C.length ≤ 1000) (hC : CallsAt w b off C) :
    Calls Try.prog 20 #[.agg (tabA s c l), .slice (some ⟨b, off, none⟩) C.length cap] w fun e w' => e = .returned (.tuple #[.int .i64 (pathF c l C 0).1, .int .i64 (pathF c l C 0).2]) ∧ Below w.heap.size w w' := by
  have HL := Lib.hid hl
  have HT := Lib.hid (TabAt.box w s c l 24)
  have HS := Lib.hid (size_tab s c l hl)
  have HH := Lib.hid h
  have HC := Lib.hid hC
  have hd : decide ((1000 : Int) < (C.length : Int)) = false := by simp; omega
  clear hl h hC
  go_enter Try.func20, Try.ntmps20
  go_upto_region 1 with (fail)
  generalize w.alloc _ = wA at HT ⊢
  go_wp2_with (first
    | (refine wpList_load_mid rfl 24 (Operand.tmp 2) rfl w.heap.size 0 rfl (tabL s c l) _ HT.out.whole Try.underlying24 rfl HS.out ?_)
    | (go_at_call 9; refine (check_ok s c l HL.out _ HH.out).mono ?_; rintro e w1 ⟨rfl, hb⟩))
  have HT1 := Lib.hid (HT.out.call hb)
  clear hb HT
  go_loopw [6, 19] (fun m i wr => ∃ (k : Nat) (y : Int), k ≤ C.length ∧ i = .int .i64 k ∧ m = .int .i64 y ∧ 0 ≤ y ∧ y ≤ 26600 * (k : Int) ∧ Hid (pathF c l (C.drop k) y = pathF c l C 0) ∧ Hid (TabAt w w.heap.size s c l wr)) (fun _ i _ => C.length - (intOf i).toNat)
  case atStart => exact ⟨0, 0, by omega, rfl, rfl, by omega, by omega, rfl, HT1⟩
  case round =>
    obtain ⟨k, y, hk, rfl, rfl, hy0, hy1, HP, HTR⟩ := hrel
    by_cases hlt : k < C.length
    · have hki : (k : Int) < (C.length : Int) := by omega
      have hk0 : (0 : Int) ≤ (k : Int) := by omega
      have hcs := (HC.out.call HTR.out.below).2 k hlt
      obtain ⟨c1, c2⟩ := hcs
      have hdr := drop_at hlt
      have hstep := HP.out
      rw [hdr] at hstep
      generalize C.getD k (0, 0) = x at c1 c2 hdr hstep
      obtain ⟨xo, xb⟩ := x
      simp only at c1 c2
      have HSTEP := Lib.hid hstep
      clear hdr hstep
      have hbd := costN_bd HH.out HL.out xo xb
      obtain ⟨hb1, hb2⟩ := hbd
      go_upto_region 9 with (fail)
      have HTB := Lib.hid (HTR.out.call ((Below.refl wr.heap.size wr).alloc (Nat.le_refl _) (.cells #[.int .i64 xo, .int .i64 xb] 48)))
      have e0 : (wr.alloc (.cells #[.int .i64 xo, .int .i64 xb] 48)).cell? ⟨wr.heap.size, 0, none⟩ = some (.int .i64 xo) := by rw [cell_of_row _ _ 0 _ _ _ (heap_alloc_new wr _)]; rfl
      have e1 : (wr.alloc (.cells #[.int .i64 xo, .int .i64 xb] 48)).cell? ⟨wr.heap.size, 1, none⟩ = some (.int .i64 xb) := by rw [cell_of_row _ _ 1 _ _ _ (heap_alloc_new wr _)]; rfl
      clear c1 c2
      generalize wr.alloc (.cells #[.int .i64 xo, .int .i64 xb] 48) = wB at HTB e0 e1 ⊢
      go_upto_region 10 with (first
        | (refine wpList_load_mid rfl 24 (Operand.tmp 2) rfl w.heap.size 0 rfl (tabL s c l) _ HTB.out.whole Try.underlying24 rfl HS.out ?_)
        | (go_at_call 6; refine (cost_any s c l HL.out xo xb _ _ _ (costV_at HH.out xo xb)).mono ?_; rintro e w2 ⟨rfl, hb2⟩))
      have HT2 := Lib.hid (HTB.out.call hb2)
      clear hb2 e0 e1
      by_cases he : costE xo xb = 0
      · have HNX : Hid (pathF c l (C.drop (k + 1)) (y + costN c l xo xb) = pathF c l C 0) := by show _ = _; rw [← HSTEP.out, pathF, if_pos he]
        rw [he]
        clear he
        generalize costN c l xo xb = v at hb1 hb2 HNX ⊢
        go_wp2
        go_roundw
        case rel => exact ⟨k + 1, y + v, by omega, by go_num, rfl, by omega, by omega, HNX, HT2⟩
        case measure => simp [intOf]; omega
      · have HNX : Hid (pathF c l C 0 = (0, costE xo xb)) := by show _ = _; rw [← HSTEP.out, pathF, if_neg he]
        have hne : (costE xo xb != 0) = true := by simpa using he
        generalize costE xo xb = e9 at HNX hne ⊢
        clear he
        go_wp2
        go_ret2
        exact ⟨by rw [HNX.out]; rfl, HT2.out.below⟩
    · obtain rfl : k = C.length := by omega
      have HP2 : Hid (pathF c l C 0 = (y, 0)) := by show _ = _; rw [← HP.out, List.drop_length]; rfl
      have hdd : decide ((C.length : Int) < (C.length : Int)) = false := by simp
      go_wp2
      go_ret2
      exact ⟨by rw [HP2.out]; rfl, HTR.out.below⟩
end Go.Proofs.Ytgbbidgmhmbehaa
