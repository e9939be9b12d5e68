/- The contract of costs.Sections. -/
import Derived.Test.YtnnmmkimdknbgaaDoorCd
import Derived.OwnWalk
import Derived.WalkSpells
import Derived.Deep.AppendLies
namespace Go.Proofs.YtnnmmkimdknbgaaDoor
open Go.RowKit
set_option linter.unusedVariables false

/-- The sections of an operation of r ticks (fuel first). -/
def secF (s : Int) : Nat → Int → List Int
  | 0, _ => []
  | f + 1, r => if 0 < r then (if s < r then s else r) :: secF s f (r - s) else []
theorem secF_no {s r : Int} (h : r ≤ 0) : ∀ f, secF s f r = []
  | 0 => rfl
  | f + 1 => by rw [secF, if_neg (by omega)]
theorem secF_fuel {s : Int} (hs : 1 ≤ s) : ∀ (f g : Nat) (r : Int), r ≤ f → r ≤ g → secF s f r = secF s g r
  | 0, g, r, hf, hg => by rw [secF_no (by omega), secF_no (by omega)]
  | f + 1, 0, r, hf, hg => by rw [secF_no (by omega), secF_no (by omega)]
  | f + 1, g + 1, r, hf, hg => by
    rw [secF, secF, secF_fuel hs f g (r - s) (by omega) (by omega)]
def secs (s n : Int) : List Int := secF s n.toNat n
theorem secs_no {s n : Int} (h : n ≤ 0) : secs s n = [] := secF_no h _
theorem secs_step {s n : Int} (hs : 1 ≤ s) (h : 0 < n) : secs s n = (if s < n then s else n) :: secs s (n - s) := by
  obtain ⟨f, hf⟩ : ∃ f : Nat, n.toNat = f + 1 := ⟨n.toNat - 1, by omega⟩
  rw [secs, hf, secF, if_pos h, secs, secF_fuel hs f (n - s).toNat (n - s) (by omega) (by omega)]
theorem secs_len {s : Int} (hs : 1 ≤ s) : ∀ (f : Nat) (n : Int), n ≤ f → ((secs s n).length : Int) ≤ f
  | 0, n, h => by rw [secs_no (by omega)]; simp
  | f + 1, n, h => by
    by_cases h0 : 0 < n
    · rw [secs_step hs h0]
      have := secs_len hs f (n - s) (by omega)
      simp only [List.length_cons]
      omega
    · rw [secs_no (by omega)]
      simp; omega

theorem info_i64 : (Tryd.prog.info? 2).map (fun i => (i.zero, i.size, i.bytes)) = some (some (.int .i64 0), 1, 8) := by kernel_rfl

theorem sec_round {w wr w1 : World} {s c : Int} {l xs : List Int} {r n x : Int} {v v' : Value} {o : Obj} (hs : 1 ≤ s) (hr : 0 < r) (ht : TabAt w w.heap.size s c l wr) (hx : (if s < r then s else r) = x)
    (hsum : xs ++ secs s r = secs s n) (hown : wr.ownsRow (w.heap.size + 1) 2 1 v xs.length (xs.map (Value.int .i64)))
    (hown1 : w1.ownsRow (w.heap.size + 1) 2 1 v' (xs.length + 1) (xs.map (Value.int .i64) ++ [.int .i64 x])) (hg : (wr.alloc o).grownBy w1 v.ownBlock) :
    (xs ++ [x]) ++ secs s (r - s) = secs s n ∧ w1.ownsRow (w.heap.size + 1) 2 1 v' (xs ++ [x]).length ((xs ++ [x]).map (Value.int .i64)) ∧ TabAt w w.heap.size s c l w1 := by
  have hne : v.ownBlock ≠ some w.heap.size := fun h => by have := (hown.lt _ h).1; omega
  have hlt : w.heap.size < wr.heap.size := ht.2.2.2.2
  have ha : TabAt w w.heap.size s c l (wr.alloc o) := ht.call ((Below.refl _ _).alloc (Nat.le_refl _) _)
  have hblk : w1.heap[w.heap.size]? = (wr.alloc o).heap[w.heap.size]? := hg.block _ (by simp; omega) (fun h => hne h.symm)
  refine ⟨?_, by simpa using hown1, ?_⟩
  · rw [← hsum, secs_step hs hr, hx]; simp
  · refine ⟨?_, ?_, ?_, ?_, ?_⟩
    · rw [World.cell?_of_block (w := wr.alloc o) hblk]; exact ha.1
    · rw [World.cell?_of_block (w := wr.alloc o) hblk]; exact ha.2.1
    · intro j u hu; rw [World.cell?_of_block (w := wr.alloc o) hblk]; exact ha.2.2.1 j u hu
    · exact ha.2.2.2.1.grown hg (by simp; omega) (fun k hk => by have := (hown.lt k hk).1; omega)
    · exact Nat.lt_of_lt_of_le ha.2.2.2.2 hg.size

theorem ownsRow_mono {w : World} {b b' : Nat} {e : TypeId} {size : Nat} {v : Value} {n : Nat} {xs : List Value} (h : w.ownsRow b e size v n xs) (hb : b' ≤ b) : w.ownsRow b' e size v n xs := by
  refine ⟨h.1, ?_⟩
  rcases h.2 with h2 | ⟨g, cap, cur, h1, h2, h3⟩
  · exact .inl h2
  · exact .inr ⟨g, cap, cur, h1, Nat.le_trans hb h2, h3⟩

set_option maxHeartbeats 1000000 in
set_option maxRecDepth 100000 in
theorem sections_no (s c : Int) (l : List Int) (hl : l.length = 24) (n : Int) (w : World) (h : ¬ okN s c l n) :
    Calls Tryd.prog 13 #[.agg (tabA s c l), .int .i64 n] w fun e w' => e = .returned (.tuple #[.slice none 0 0, .int .i64 34]) ∧ Below w.heap.size w w' := by
  have HL := Lib.hid hl
  have HT := Lib.hid (TabAt.box w s c l 24)
  have HS := Lib.hid (size_tab s c l hl)
  have HH := Lib.hid h
  clear hl h
  go_enter Tryd.func13, Tryd.ntmps13
  go_wp2_with (first
    | (refine wpList_load_mid rfl 24 (Operand.tmp 2) rfl w.heap.size 0 rfl (tabL s c l) _ HT.out.whole Tryd.underlying24 rfl HS.out ?_)
    | (go_at_call 32; refine (div_no s c l HL.out n _ HH.out).mono ?_; rintro e w1 ⟨rfl, hb⟩))
  go_ret2
  exact ⟨rfl, (HT.out.call hb).below⟩

/-- What Sections hands back. -/
def SecPost (s n : Int) (w : World) (e : Ending) (w' : World) : Prop :=
  ∃ v, e = .returned (.tuple #[v, .int .i64 0]) ∧ w'.ownsRow w.heap.size 2 1 v (secs s n).length ((secs s n).map (Value.int .i64)) ∧ Below w.heap.size w w'

set_option maxHeartbeats 1000000 in
set_option maxRecDepth 100000 in
theorem sections_ok (s c : Int) (l : List Int) (hl : l.length = 24) (n : Int) (w : World) (h : okN s c l n) :
    Calls Tryd.prog 13 #[.agg (tabA s c l), .int .i64 n] w (SecPost s n w) := by
  have HL := Lib.hid hl
  have HT := Lib.hid (TabAt.box w s c l 24)
  have HS := Lib.hid (size_tab s c l hl)
  have HH := Lib.hid h
  have hs1 : 1 ≤ s := h.1.1
  have hs2 : s ≤ 1000 := h.1.2.1
  have hn1 : 1 ≤ n := h.2.1
  have hn2 : n ≤ 100000 := h.2.2
  clear hl h
  obtain ⟨i0, hi, hz0, hz1, hz2⟩ := info_parts info_i64
  have HI := Lib.hid hi
  have HZ0 := Lib.hid hz0
  have HZ1 := Lib.hid hz1
  have HZ2 := Lib.hid hz2
  clear hi hz0 hz1 hz2
  go_enter Tryd.func13, Tryd.ntmps13
  go_wp2_with (first
    | (refine wpList_load_mid rfl 24 (Operand.tmp 2) rfl w.heap.size 0 rfl (tabL s c l) _ HT.out.whole Tryd.underlying24 rfl HS.out ?_)
    | (go_at_call 32; refine (div_yes s c l HL.out n _ HH.out).mono ?_; rintro e w1 ⟨rfl, hb⟩))
  have HT1 := Lib.hid (HT.out.call hb)
  clear hb
  go_loopw [6, 7] (fun v r wr => ∃ (xs : List Int) (q : Int), r = .int .i64 q ∧ 0 - 1000 < q ∧ q ≤ n ∧ (xs.length : Int) + q ≤ n ∧ Hid (xs ++ secs s q = secs s n) ∧ wr.ownsRow (w.heap.size + 1) 2 1 v xs.length (xs.map (Value.int .i64)) ∧ TabAt w w.heap.size s c l wr) (fun _ r _ => (intOf r).toNat)
  case atStart =>
    exact ⟨[], n, rfl, by omega, by omega, by simp, rfl, World.ownsRow_nil _ _ _ _, HT1.out⟩
  case round =>
    obtain ⟨xs, q, rfl, hq1, hq2, hq3, HSUM, hown, ht⟩ := hrel
    have hc0 := ht.1
    have hwlt : w.heap.size < wr.heap.size := ht.2.2.2.2
    have HTT := Lib.hid ht
    clear ht
    by_cases hq : 0 < q
    · have hxl : xs.length ≤ 100000 := by omega
      by_cases hc : s < q
      · go_wp2_with (at_builtin; go_must (refine wpList_append_own _ rfl (Operand.tmp 19) (Operand.tmp 24) 42 rfl (w.heap.size + 1) 2 i0 (.int .i64 0) 1 8 Tryd.underlying42 HI.out HZ0.out HZ1.out HZ2.out rfl (by decide) _ _ _ rfl (hown.alloc _) ⟨wr.heap.size, 0, none⟩ 1 1 [.int .i64 s] rfl rfl (World.news_of_block (cs := #[.int .i64 s]) (t := 2) (fr := (0, 0)) (heap_alloc_new wr _)) (by simp [Value.oneCell']) (by unfold maxLen; omega) (by omega) (by simp; omega) ?_); intro v' w1 hown1 hgrow _; have HN := Lib.hid (sec_round hs1 hq HTT.out (if_pos hc) HSUM.out hown hown1 hgrow); have hc1 := HN.out.2.2.1; clear hown hown1 hgrow hc0)
        go_roundw
        case rel => exact ⟨xs ++ [s], q - s, rfl, by omega, by omega, by simp; omega, HN.out.1, HN.out.2.1, HN.out.2.2⟩
        case measure => simp [intOf]; omega
      · go_wp2_with (at_builtin; go_must (refine wpList_append_own _ rfl (Operand.tmp 19) (Operand.tmp 24) 42 rfl (w.heap.size + 1) 2 i0 (.int .i64 0) 1 8 Tryd.underlying42 HI.out HZ0.out HZ1.out HZ2.out rfl (by decide) _ _ _ rfl (hown.alloc _) ⟨wr.heap.size, 0, none⟩ 1 1 [.int .i64 q] rfl rfl (World.news_of_block (cs := #[.int .i64 q]) (t := 2) (fr := (0, 0)) (heap_alloc_new wr _)) (by simp [Value.oneCell']) (by unfold maxLen; omega) (by omega) (by simp; omega) ?_); intro v' w1 hown1 hgrow _; have HN := Lib.hid (sec_round hs1 hq HTT.out (if_neg hc) HSUM.out hown hown1 hgrow); have hc1 := HN.out.2.2.1; clear hown hown1 hgrow hc0)
        go_roundw
        case rel => exact ⟨xs ++ [q], q - s, rfl, by omega, by omega, by simp; omega, HN.out.1, HN.out.2.1, HN.out.2.2⟩
        case measure => simp [intOf]; omega
    · have hd : decide (0 < q) = false := by simp; omega
      have HOWN := Lib.hid hown
      have e : xs = secs s n := by have := HSUM.out; rwa [secs_no (by omega), List.append_nil] at this
      have HE := Lib.hid e
      clear hown e
      go_wp2
      go_ret2
      exact ⟨_, rfl, by rw [← HE.out]; exact ownsRow_mono HOWN.out (by omega), HTT.out.below⟩
end Go.Proofs.YtnnmmkimdknbgaaDoor
