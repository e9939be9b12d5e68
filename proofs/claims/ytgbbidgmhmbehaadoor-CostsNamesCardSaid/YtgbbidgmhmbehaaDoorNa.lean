/- The contracts of Name and Number, of the code and of the specification. -/
import Derived.Test.YtgbbidgmhmbehaaDoorCg
namespace Go.Proofs.YtgbbidgmhmbehaaDoor
open Go.RowKit
set_option linter.unusedVariables false

/-- The bytes of the names of the operations. -/
def nmB : List (List UInt8) := [[115, 101, 110, 100], [114, 101, 99, 101, 105, 118, 101], [114, 101, 112, 108, 121], [114, 101, 97, 100], [119, 114, 105, 116, 101], [112, 117, 108, 115, 101], [108, 111, 99, 107], [117, 110, 108, 111, 99, 107], [99, 111, 110, 100, 119, 97, 105, 116], [99, 111, 110, 100, 115, 105, 103, 110, 97, 108], [115, 101, 109, 119, 97, 105, 116], [115, 101, 109, 112, 111, 115, 116], [98, 97, 114, 114, 105, 101, 114], [116, 105, 109, 101, 114], [115, 108, 101, 101, 112], [99, 104, 97, 110, 110, 101, 108], [105, 110, 116, 101, 114, 114, 117, 112, 116], [117, 110, 109, 97, 115, 107], [107, 105, 108, 108], [112, 114, 105, 111, 114, 105, 116, 121], [121, 105, 101, 108, 100], [101, 120, 105, 116], [115, 112, 97, 119, 110], [110, 111, 112]]
/-- The name of operation k. -/
def nm (k : Nat) : ByteArray := ⟨(nmB.getD k []).toArray⟩
def nmV : List Value := (List.range 24).map fun j => Value.string (nm j)
theorem nmV_len : nmV.length = 24 := by simp [nmV]
theorem nmV_get (k : Nat) (h : k < 24) : nmV[k]? = some (.string (nm k)) := by simp [nmV, h]

/-- The package-level table holds the names. -/
def NamesAt (w : World) : Prop := ∀ k, k < 24 → w.cell? ⟨0, k, none⟩ = some (.string (nm k))
theorem NamesAt.range {w : World} (h : NamesAt w) : w.rangeAt 0 0 nmV := fun j v hv => by
  have hj : j < 24 := by have := (List.getElem?_eq_some_iff.1 hv).1; rwa [nmV_len] at this
  rw [nmV_get j hj] at hv
  rw [Nat.zero_add, h j hj, hv]
theorem NamesAt.lt {w : World} (h : NamesAt w) : 0 < w.heap.size := World.block_lt_of_cell? w _ (h 0 (by decide))
theorem NamesAt.below {w w' : World} (h : NamesAt w) (hb : Below w.heap.size w w') : NamesAt w' := fun k hk => by
  rw [hb.cell (p := ⟨0, k, none⟩) h.lt]; exact h k hk

theorem index_nm (k : Nat) (hk : k < 24) (w : World) : (Instr.index 50 (.agg nmV.toArray) (.int .i64 (k : Int))).run Tryd.prog w = .ok (.string (nm k)) w := by
  have hz : ∀ w, (sizeOf 9).run Tryd.prog w = .ok 1 w := fun _ => by kernel_rfl
  have h0 : (0 : Int) ≤ k ∧ (k : Int) < 24 := by omega
  simp [Instr.index, asIntOf, run_underlying Tryd.underlying50, run_underlying Tryd.underlying9, part, isAgg, hz, h0, nmV_get k hk]
  intro h; omega
theorem size_nm : (Tryd.prog.info? 50).map (·.size) = some nmV.length := by rw [nmV_len]; kernel_rfl

set_option maxHeartbeats 400000 in
theorem name_no (n : Int) (w : World) (h : n < 0 ∨ 24 ≤ n) : Calls Tryd.prog 7 #[.int .i64 n] w fun e w' => e = .returned (.string ⟨#[]⟩) ∧ w = w' := by
  have HH := Lib.hid h
  clear h
  go_enter Tryd.func7, Tryd.ntmps7
  go_wp2_with (go_at_call 20; refine (isop_no _ _ HH.out).mono ?_; rintro e w' ⟨rfl, rfl⟩)
  go_ret
  exact ⟨rfl, rfl⟩
set_option maxHeartbeats 400000 in
theorem name_yes (k : Nat) (w : World) (h : k < 24) (hN : NamesAt w) : Calls Tryd.prog 7 #[.int .i64 k] w fun e w' => e = .returned (.string (nm k)) ∧ w = w' := by
  have hc := hN k h
  have h0 : (0 : Int) ≤ k := by omega
  have h1 : (k : Int) < 24 := by omega
  clear hN
  go_enter Tryd.func7, Tryd.ntmps7
  go_wp2_with (go_at_call 20; refine (isop_yes _ _ h0 h1).mono ?_; rintro e w' ⟨rfl, rfl⟩)
  go_ret
  exact ⟨rfl, rfl⟩

def RefNames (w : World) (e : Ending) (w' : World) : Prop := e = .returned (.slice (some ⟨w.heap.size, 0, none⟩) 24 24) ∧ (∀ k, k < 24 → w'.cell? ⟨w.heap.size, k, none⟩ = some (.string (nm k))) ∧ Below w.heap.size w w' ∧ w.heap.size < w'.heap.size
set_option maxHeartbeats 400000 in
theorem refnames_any (w : World) : Calls Tryd.prog 21 #[] w (RefNames w) := by
  go_enter Tryd.func21, Tryd.ntmps21
  go_wp2
  go_ret
  refine ⟨rfl, fun k hk => ?_, (Below.refl _ _).alloc (Nat.le_refl _) _, by simp⟩
  rw [cell_of_row _ _ k _ _ _ (heap_alloc_new w _)]
  have e : ∀ j : Fin 24, nmV.toArray[j.1]? = some (.string (nm j.1)) := fun j => by rw [List.getElem?_toArray]; exact nmV_get j.1 j.2
  exact e ⟨k, hk⟩

set_option maxHeartbeats 400000 in
theorem refname_no (n : Int) (w : World) (h : n < 0 ∨ 24 ≤ n) : Calls Tryd.prog 8 #[.int .i64 n] w fun e w' => e = .returned (.string ⟨#[]⟩) ∧ w = w' := by
  rcases h with h | h
  · go_enter Tryd.func8, Tryd.ntmps8
    go_wp2
    go_ret
    exact ⟨rfl, rfl⟩
  · have hd : decide (n < 0) = false := by simp; omega
    go_enter Tryd.func8, Tryd.ntmps8
    go_wp2
    go_ret
    exact ⟨rfl, rfl⟩
set_option maxHeartbeats 400000 in
theorem refname_yes (k : Nat) (w : World) (h : k < 24) : Calls Tryd.prog 8 #[.int .i64 k] w fun e w' => e = .returned (.string (nm k)) ∧ Below w.heap.size w w' := by
  have h0 : (0 : Int) ≤ k := by omega
  have h1 : (k : Int) < 24 := by omega
  have hd : decide ((k : Int) < 0) = false := by simp
  have hd2 : decide ((24 : Int) ≤ (k : Int)) = false := by simp; omega
  go_enter Tryd.func8, Tryd.ntmps8
  go_wp2_with (go_at_call 21; refine (refnames_any _).mono ?_; rintro e w1 ⟨rfl, hc, hb, _⟩; have hck := hc k h; clear hc)
  go_ret
  exact ⟨rfl, by assumption⟩

/-- The first name from k on that is s, or -1. -/
def numF (s : ByteArray) : Nat → Nat → Int
  | 0, _ => -1
  | f + 1, k => if nm k = s then k else numF s f (k + 1)
def numOf (s : ByteArray) : Int := numF s 24 0
theorem numF_hit {s : ByteArray} {k : Nat} (h : k < 24) (e : nm k = s) : numF s (24 - k) k = k := by
  rw [show 24 - k = (24 - (k + 1)) + 1 from by omega, numF, if_pos e]
theorem numF_miss {s : ByteArray} {k : Nat} (h : k < 24) (e : ¬ nm k = s) : numF s (24 - k) k = numF s (24 - (k + 1)) (k + 1) := by
  rw [show 24 - k = (24 - (k + 1)) + 1 from by omega, numF, if_neg e]

theorem bytes_inj {a b : ByteArray} (h : a.toList = b.toList) : a = b := by
  rw [ByteArray.toList_eq, ByteArray.toList_eq] at h
  obtain ⟨⟨x⟩⟩ := a
  obtain ⟨⟨y⟩⟩ := b
  simp only at h
  rw [h]
theorem seq_yes {a b : ByteArray} (h : b = a) : (a.toList == b.toList) = true := by rw [h]; exact beq_iff_eq.2 rfl
theorem seq_no {a b : ByteArray} (h : ¬ b = a) : (a.toList == b.toList) = false := beq_eq_false_iff_ne.2 (fun e => h (bytes_inj e).symm)

set_option maxHeartbeats 1000000 in
set_option maxRecDepth 100000 in
theorem number_any (s : ByteArray) (w : World) (hN : NamesAt w) : Calls Tryd.prog 9 #[.string s] w fun e w' => e = .returned (.int .i64 (numOf s)) ∧ w = w' := by
  have HN := Lib.hid hN
  clear hN
  go_enter Tryd.func9, Tryd.ntmps9
  go_wp2_with (refine wpList_load_mid rfl 50 (Operand.global 0) rfl 0 0 rfl nmV _ HN.out.range Tryd.underlying50 rfl size_nm ?_)
  go_loop [6] (fun i => ∃ k : Nat, k ≤ 24 ∧ i = .int .i64 k ∧ Hid (numF s (24 - k) k = numOf s)) (fun i => 24 - (intOf i).toNat)
  case atStart => exact ⟨0, by omega, rfl, rfl⟩
  case round =>
    obtain ⟨k, hk, rfl, HK⟩ := hrel
    by_cases hlt : k < 24
    · have hix := index_nm k hlt
      by_cases hs : nm k = s
      · have hq := seq_yes hs
        have HV : Hid ((k : Int) = numOf s) := by rw [← HK.out, numF_hit hlt hs]; rfl
        clear hs
        go_wp2
        go_ret
        exact ⟨ret_int HV.out, rfl⟩
      · have hq := seq_no hs
        have HV : Hid (numF s (24 - (k + 1)) (k + 1) = numOf s) := by rw [← numF_miss hlt hs]; exact HK.out
        clear hs
        go_wp2
        go_round
        case rel => exact ⟨k + 1, by omega, by go_num, HV⟩
        case measure => simp [intOf]; omega
    · obtain rfl : k = 24 := by omega
      go_wp2
      go_ret
      exact ⟨ret_int HK.out, rfl⟩

set_option maxHeartbeats 1000000 in
set_option maxRecDepth 100000 in
theorem refnumber_any (s : ByteArray) (w : World) : Calls Tryd.prog 10 #[.string s] w fun e w' => e = .returned (.int .i64 (numOf s)) ∧ Below w.heap.size w w' := by
  go_enter Tryd.func10, Tryd.ntmps10
  go_wp2_with (go_at_call 21; refine (refnames_any _).mono ?_; rintro e w1 ⟨rfl, hc, hb, _⟩; have HC := Lib.hid hc; have HB := Lib.hid hb; clear hc hb)
  go_loop [4] (fun i => ∃ k : Nat, k ≤ 24 ∧ i = .int .i64 k ∧ Hid (numF s (24 - k) k = numOf s)) (fun i => 24 - (intOf i).toNat)
  case atStart => exact ⟨0, by omega, rfl, rfl⟩
  case round =>
    obtain ⟨k, hk, rfl, HK⟩ := hrel
    by_cases hlt : k < 24
    · have hck := HC.out k hlt
      by_cases hs : nm k = s
      · have hq := seq_yes hs.symm
        have HV : Hid ((k : Int) = numOf s) := by rw [← HK.out, numF_hit hlt hs]; rfl
        clear hs
        go_wp2
        go_ret
        exact ⟨ret_int HV.out, HB.out⟩
      · have hq := seq_no (fun e => hs e.symm)
        have HV : Hid (numF s (24 - (k + 1)) (k + 1) = numOf s) := by rw [← numF_miss hlt hs]; exact HK.out
        clear hs
        go_wp2
        go_round
        case rel => exact ⟨k + 1, by omega, by go_num, HV⟩
        case measure => simp [intOf]; omega
    · obtain rfl : k = 24 := by omega
      go_wp2
      go_ret
      exact ⟨ret_int HK.out, HB.out⟩

theorem numOf_eq (s : ByteArray) : ((numOf s) == (numOf s)) = true := beq_iff_eq.2 rfl

set_option maxHeartbeats 1000000 in
set_option maxRecDepth 100000 in
theorem names_long (n : Int) (s : ByteArray) (w : World) (hs : s.size ≤ maxLen) (h : 300 < s.size) :
    Calls Tryd.prog 3 #[.int .i64 n, .string s] w fun e w' => e = .returned (.bool true) ∧ Below w.heap.size w w' := by
  unfold maxLen at hs
  have h1 : (300 : Int) < (s.size : Int) := by omega
  go_enter Tryd.func3, Tryd.ntmps3
  go_wp2_with (go_at_call 6; refine (awake_any _).mono ?_; rintro e w1 ⟨rfl, hb⟩)
  go_ret
  exact ⟨rfl, by assumption⟩

set_option maxHeartbeats 1000000 in
set_option maxRecDepth 100000 in
theorem names_bad (n : Int) (s : ByteArray) (w : World) (hs : s.size ≤ 300) (hn : n < 0 ∨ 24 ≤ n) (hN : NamesAt w) :
    Calls Tryd.prog 3 #[.int .i64 n, .string s] w fun e w' => e = .returned (.bool true) ∧ Below w.heap.size w w' := by
  have HN := Lib.hid hN
  have HH := Lib.hid hn
  have hd : decide ((300 : Int) < (s.size : Int)) = false := by simp; omega
  have hq := numOf_eq s
  clear hN hn
  go_enter Tryd.func3, Tryd.ntmps3
  go_wp2_with (first
    | (go_at_call 7; refine (name_no n _ HH.out).mono ?_; rintro e w' ⟨rfl, rfl⟩)
    | (go_at_call 8; refine (refname_no n _ HH.out).mono ?_; rintro e w' ⟨rfl, rfl⟩)
    | (go_at_call 9; refine (number_any s _ HN.out).mono ?_; rintro e w' ⟨rfl, rfl⟩)
    | (go_at_call 10; refine (refnumber_any s _).mono ?_; rintro e w1 ⟨rfl, hb1⟩)
    | (go_at_call 6; refine (awake_any _).mono ?_; rintro e w2 ⟨rfl, hb2⟩))
  go_ret
  exact ⟨rfl, below_call (by assumption) (by assumption)⟩

set_option maxHeartbeats 1000000 in
set_option maxRecDepth 100000 in
theorem names_good (k : Nat) (s : ByteArray) (w : World) (hs : s.size ≤ 300) (hk : k < 24) (hN : NamesAt w) :
    Calls Tryd.prog 3 #[.int .i64 k, .string s] w fun e w' => e = .returned (.bool true) ∧ Below w.heap.size w w' := by
  have HN := Lib.hid hN
  have HH := Lib.hid hk
  have hd : decide ((300 : Int) < (s.size : Int)) = false := by simp; omega
  have hq := numOf_eq s
  clear hN hk
  go_enter Tryd.func3, Tryd.ntmps3
  go_wp2_with (first
    | (go_at_call 7; refine (name_yes k _ HH.out HN.out).mono ?_; rintro e w' ⟨rfl, rfl⟩)
    | (go_at_call 8; refine (refname_yes k _ HH.out).mono ?_; rintro e w0 ⟨rfl, hb0⟩; have HN0 := Lib.hid (HN.out.below hb0))
    | (go_at_call 9; refine (number_any s _ HN0.out).mono ?_; rintro e w' ⟨rfl, rfl⟩)
    | (go_at_call 10; refine (refnumber_any s _).mono ?_; rintro e w1 ⟨rfl, hb1⟩)
    | (go_at_call 6; refine (awake_any _).mono ?_; rintro e w2 ⟨rfl, hb2⟩))
  go_ret
  exact ⟨rfl, below_call (below_call (by assumption) (by assumption)) (by assumption)⟩

/-- The law: names and numbers. -/
theorem names_walk (n : Int) (s : ByteArray) (w : World) (hs : s.size ≤ maxLen) (hN : NamesAt w) :
    Calls Tryd.prog 3 #[.int .i64 n, .string s] w fun e w' => e = .returned (.bool true) ∧ Below w.heap.size w w' := by
  by_cases h : 300 < s.size
  · exact names_long n s w hs h
  · by_cases hn : n < 0 ∨ 24 ≤ n
    · exact names_bad n s w (by omega) hn hN
    · obtain ⟨k, rfl⟩ := Int.eq_ofNat_of_zero_le (show 0 ≤ n by omega)
      exact names_good k s w (by omega) (by omega) hN
end Go.Proofs.YtgbbidgmhmbehaaDoor
