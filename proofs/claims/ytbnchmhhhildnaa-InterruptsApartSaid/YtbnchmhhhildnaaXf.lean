/- Interrupts: isAttached, leastFree, sum, find. -/
import Derived.Test.YtbnchmhhhildnaaXe
import Derived.Test.YtbnchmhhhildnaaShelf
import Derived.Shelf.Spec.SlicesInsert
import Derived.Shelf.Spec.SlicesInsertGrow
namespace Go.Proofs.Ytbnchmhhhildnaa
open Go.RowKit Go.Maps
set_option linter.unusedVariables false

theorem size_att : (Try.prog.info? 87).map (·.size) = some 7 := by kernel_rfl
theorem size_event : (Try.prog.info? 32).map (·.size) = some 5 := by kernel_rfl
theorem size_cnt : (Try.prog.info? 81).map (·.size) = some 2 := by kernel_rfl
def tcs (x : Tm) : Array Value := #[.int .i64 x.l, .int .i64 x.t, .int .i64 x.k, .int .i64 x.c, .int .i64 x.p, .int .i64 x.d, .int .i64 x.v]
theorem tcs_one (x : Tm) : (tcs x).all (·.oneCell') = true := by simp [tcs, Value.oneCell']
theorem tcs_size (x : Tm) : (Try.prog.info? 87).map (·.size) = some (tcs x).size := size_att
def cnc (e : Int × Int) : Array Value := #[.int .i64 e.1, .int .i64 e.2]
theorem cnc_one (e : Int × Int) : (cnc e).all (·.oneCell') = true := by simp [cnc, Value.oneCell']
set_option maxRecDepth 100000 in
theorem isatt_ok {W : World} {O : Nat → Prop} {B : Nat} {y : LY} {s : IS} (h : CM W O B y s) {x : Int} (hx : isW x) : Calls Try.prog 52 #[.pointer (some ⟨B, 0, none⟩), .int .i64 x] W fun e w' => e = .returned (.bool (get s.att x).isSome) ∧ Fr No W w' := by
  have c0 : W.cell? ⟨B, 1, none⟩ = some (.map (some y.a)) := h.row.cell 1
  have HL := Lib.hid (h.ma.look_ok hx)
  clear h hx
  generalize hv : (get s.att x).getD tz = v at HL
  clear hv
  go_enter Try.func52, Try.ntmps52
  go_wp2_with (first
    | (at_lookup; refine wpList_look rfl _ _ _ true rfl _ _ rfl rfl _ HL.out ?_; unfold tmE; go_frame)
    | ((with_reducible refine st_gate ?_); refine wpList_store_row rfl 87 (Operand.tmp 5) (Operand.tmp 14) rfl W.heap.size (tcs v) rfl rfl _ (tcs tz) (RowAt.new W _ _) (tcs_size v) rfl (tcs_one v) ?_; rw [World.setRow_alloc_new]))
  go_ret
  exact ⟨rfl, Fr.alloc _ _ _⟩
def lfFrom : Nat → TS → Nat
  | k, [] => k
  | k, p :: r => if p.1 = (k : Int) then lfFrom (k + 1) r else k
theorem lf_spec : ∀ {l : TS} {k : Nat}, SortedT l → (∀ p ∈ l, (k : Int) ≤ p.1) → (∀ m : Nat, k ≤ m → m < lfFrom k l → (get l m).isSome = true) ∧ get l (lfFrom k l : Nat) = none ∧ k ≤ lfFrom k l ∧ lfFrom k l ≤ k + l.length
  | [], k, _, _ => ⟨fun m h1 h2 => by simp [lfFrom] at h2; omega, rfl, Nat.le_refl _, Nat.le_refl _⟩
  | p :: r, k, hs, hk => by
    obtain ⟨h1, h2⟩ := List.pairwise_cons.1 hs
    by_cases hp : p.1 = (k : Int)
    · have ih := lf_spec (l := r) (k := k + 1) h2 (fun q hq => by have := h1 q hq; push_cast; omega)
      rw [lfFrom, if_pos hp]
      refine ⟨fun m m1 m2 => ?_, ?_, by omega, by simp; omega⟩
      · rw [get_cons]
        by_cases hm : p.1 = (m : Int)
        · simp [hm]
        · rw [if_neg hm]; exact ih.1 m (by omega) m2
      · rw [get_cons, if_neg (by have := ih.2.2.1; omega)]; exact ih.2.1
    · rw [lfFrom, if_neg hp]
      refine ⟨fun m m1 m2 => by omega, ?_, Nat.le_refl _, by simp⟩
      have := hk p (by simp)
      refine get_none_of_lt fun q hq => ?_
      rcases List.mem_cons.1 hq with rfl | hq
      · omega
      · have := h1 q hq; omega
/-- The least number that no attachment has. -/
def lf (l : TS) : Nat := lfFrom 0 l
theorem lf_ok {s : IS} (h : IOk s) : (∀ m : Nat, m < lf s.att → (get s.att m).isSome = true) ∧ get s.att (lf s.att : Nat) = none ∧ lf s.att ≤ s.att.length := by
  have := lf_spec (l := s.att) (k := 0) h.srt (fun p hp => by have := (h.key p hp).1; simpa using this)
  exact ⟨fun m hm => this.1 m (Nat.zero_le _) hm, this.2.1, by have h := this.2.2.2; rw [Nat.zero_add] at h; exact h⟩
theorem isW_nat {n : Nat} (h : n ≤ 100000) : isW (n : Int) := wf6 (by omega) (by omega)
set_option maxRecDepth 100000 in
set_option maxHeartbeats 1000000 in
theorem leastfree_ok {W : World} {O : Nat → Prop} {B : Nat} {y : LY} {s : IS} (h : CM W O B y s) (hi : IOk s) : Calls Try.prog 48 #[.pointer (some ⟨B, 0, none⟩)] W fun e w' => e = .returned (.int .i64 (lf s.att : Nat)) ∧ Fr No W w' := by
  have HS := Lib.hid h
  have HL := Lib.hid (lf_ok hi)
  have HB : Hid (lf s.att ≤ 100) := Nat.le_trans (lf_ok hi).2.2 hi.cnt
  clear h hi
  go_enter Try.func48, Try.ntmps48
  go_wp2
  go_loopw [3] (fun vi wr => ∃ i : Nat, vi = .int .i64 i ∧ Hid (i ≤ lf s.att ∧ Fr No W wr)) (fun vi _ => lf s.att - (intOf vi).toNat)
  case atStart => exact ⟨0, rfl, Nat.zero_le _, Fr.refl _ _⟩
  case round =>
    obtain ⟨i, rfl, HI⟩ := hrel
    have i0 : (0 : Int) ≤ i := by omega
    have i1 : (i : Int) ≤ 1000 := by have := HI.out.1; have := HB.out; omega
    have HT := Lib.hid (isatt_ok (HS.out.no HI.out.2) (x := (i : Int)) (isW_nat (by omega)))
    by_cases hi : i < lf s.att
    · rw [HL.out.1 i hi] at HT
      have HMS : Hid (lf s.att - (intOf (Value.int IntKind.i64 ((i : Int) + 1))).toNat < lf s.att - (intOf (Value.int IntKind.i64 (i : Int))).toNat) := by
        show _ < _
        simp only [intOf]
        omega
      have HI1 : Hid (i + 1 ≤ lf s.att) := hi
      clear hi
      go_wp2_with (go_at_call 52; refine HT.out.mono ?_; rintro e w2 ⟨rfl, f2⟩; have F2 := Lib.hid f2; clear f2)
      go_roundw
      case rel => exact ⟨i + 1, by push_cast; rfl, HI1.out, HI.out.2.trans F2.out⟩
      case measure => exact HMS.out
    · have he : i = lf s.att := by have := HI.out.1; omega
      have HE := Lib.hid he
      have hn := HL.out.2.1
      rw [← he] at hn
      have hs : (get s.att (i : Int)).isSome = false := by rw [hn]; rfl
      rw [hs] at HT
      clear hi he hn hs
      go_wp2_with (go_at_call 52; refine HT.out.mono ?_; rintro e w2 ⟨rfl, f2⟩; have F2 := Lib.hid f2; clear f2)
      go_ret
      exact ⟨by rw [HE.out]; rfl, HI.out.2.trans F2.out⟩
end Go.Proofs.Ytbnchmhhhildnaa
