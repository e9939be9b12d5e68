/- Timers: leastFree, Get, Delete, checkNew. -/
import Derived.Test.YtkjokmfhmppinaaOd
namespace Go.Proofs.Ytkjokmfhmppinaa
open Go.RowKit Go.Maps
set_option linter.unusedVariables false

def lfFrom : Nat → TS → Nat
  | k, [] => k
  | k, p :: r => if p.1 = (k : Int) then lfFrom (k + 1) r else k
theorem lf_spec : ∀ {l : TS} {k : Nat}, SortedT l → (∀ p ∈ l, (k : Int) ≤ p.1) → (∀ m : Nat, k ≤ m → m < lfFrom k l → (get l m).isSome = true) ∧ get l (lfFrom k l : Nat) = none ∧ k ≤ lfFrom k l ∧ lfFrom k l ≤ k + l.length
  | [], k, _, _ => ⟨fun m h1 h2 => by simp [lfFrom] at h2; omega, rfl, Nat.le_refl _, Nat.le_refl _⟩
  | p :: r, k, hs, hk => by
    obtain ⟨h1, h2⟩ := List.pairwise_cons.1 hs
    by_cases hp : p.1 = (k : Int)
    · have ih := lf_spec (l := r) (k := k + 1) h2 (fun q hq => by have := h1 q hq; push_cast; omega)
      rw [lfFrom, if_pos hp]
      refine ⟨fun m m1 m2 => ?_, ?_, by omega, by simp; omega⟩
      · rw [get_cons]
        by_cases hm : p.1 = (m : Int)
        · simp [hm]
        · rw [if_neg hm]; exact ih.1 m (by omega) m2
      · rw [get_cons, if_neg (by have := ih.2.2.1; omega)]; exact ih.2.1
    · rw [lfFrom, if_neg hp]
      refine ⟨fun m m1 m2 => by omega, ?_, Nat.le_refl _, by simp⟩
      have := hk p (by simp)
      refine get_none_of_lt fun q hq => ?_
      rcases List.mem_cons.1 hq with rfl | hq
      · omega
      · have := h1 q hq; omega
/-- The least number that no timer has. -/
def lf (l : TS) : Nat := lfFrom 0 l
theorem lf_ok {W : World} {B b : Nat} {l : TS} {c : Int} (h : TQ W B b l c) : (∀ m : Nat, m < lf l → (get l m).isSome = true) ∧ get l (lf l : Nat) = none ∧ lf l ≤ l.length := by
  have := lf_spec (l := l) (k := 0) h.sorted (fun p hp => by have := (h.key p hp).1; simpa using this)
  exact ⟨fun m hm => this.1 m (Nat.zero_le _) hm, this.2.1, by have h := this.2.2.2; rw [Nat.zero_add] at h; exact h⟩
theorem isW_nat {n : Nat} (h : n ≤ 100000) : isW (n : Int) := wf6 (by omega) (by omega)
set_option maxRecDepth 100000 in
set_option maxHeartbeats 1000000 in
theorem leastfree_ok {W : World} {B b : Nat} {l : TS} {c : Int} (h : TQ W B b l c) : Calls Try.prog 41 #[.pointer (some ⟨B, 0, none⟩)] W fun e w' => e = .returned (.int .i64 (lf l : Nat)) ∧ Fr No W w' := by
  have HS := Lib.hid h
  have HL := Lib.hid (lf_ok h)
  have HB : Hid (lf l ≤ 1000) := Nat.le_trans (lf_ok h).2.2 h.len
  clear h
  go_enter Try.func41, Try.ntmps41
  go_wp2
  go_loopw [3] (fun vi wr => ∃ i : Nat, vi = .int .i64 i ∧ Hid (i ≤ lf l ∧ Fr No W wr)) (fun vi _ => lf l - (intOf vi).toNat)
  case atStart => exact ⟨0, rfl, Nat.zero_le _, Fr.refl _ _⟩
  case round =>
    obtain ⟨i, rfl, HI⟩ := hrel
    have i0 : (0 : Int) ≤ i := by omega
    have i1 : (i : Int) ≤ 1000 := by have := HI.out.1; have := HB.out; omega
    have HT := Lib.hid (istaken_ok (HS.out.no HI.out.2) (x := (i : Int)) (isW_nat (by omega)))
    by_cases hi : i < lf l
    · rw [HL.out.1 i hi] at HT
      have HMS : Hid (lf l - (intOf (Value.int IntKind.i64 ((i : Int) + 1))).toNat < lf l - (intOf (Value.int IntKind.i64 (i : Int))).toNat) := by
        show _ < _
        simp only [intOf]
        omega
      have HI1 : Hid (i + 1 ≤ lf l) := hi
      clear hi
      go_wp2_with (go_at_call 58; refine HT.out.mono ?_; rintro e w2 ⟨rfl, f2⟩; have F2 := Lib.hid f2; clear f2)
      go_roundw
      case rel => exact ⟨i + 1, by push_cast; rfl, HI1.out, HI.out.2.trans F2.out⟩
      case measure => exact HMS.out
    · have he : i = lf l := by have := HI.out.1; omega
      have HE := Lib.hid he
      have hn := HL.out.2.1
      rw [← he] at hn
      have hs : (get l (i : Int)).isSome = false := by rw [hn]; rfl
      rw [hs] at HT
      clear hi he hn hs
      go_wp2_with (go_at_call 58; refine HT.out.mono ?_; rintro e w2 ⟨rfl, f2⟩; have F2 := Lib.hid f2; clear f2)
      go_ret
      exact ⟨by rw [HE.out]; rfl, HI.out.2.trans F2.out⟩
/-- The specification of a timer. -/
def spOf (t : Tm) : Value := spV t.f t.i t.t
abbrev sz : Array Value := #[.int .i64 0, .int .i64 0, .int .i64 0]
set_option maxRecDepth 100000 in
set_option maxHeartbeats 1000000 in
theorem get_any {W : World} {a : Option Addr} {x : Int} {t : Tm} {z : Int} (hf : ∀ W2, Fr No W W2 → Calls Try.prog 42 #[.pointer a, .int .i64 x] W2 fun e w' => e = .returned (.tuple #[tmE t, .int .i64 z]) ∧ Fr No W2 w') :
    Calls Try.prog 22 #[.pointer a, .int .i64 x] W fun e w' => e = .returned (.tuple #[spOf t, .int .i64 z]) ∧ Fr No W w' := by
  have HZ := Lib.hid (RowAt.new W 31 sz)
  have HF : Hid (Fr No W (W.alloc (.cells sz 31))) := Fr.alloc _ _ _
  have HC := Lib.hid (hf _ HF.out)
  clear hf
  unfold sz at HZ HF HC
  go_enter Try.func22, Try.ntmps22
  go_upto_region 1 with (fail)
  generalize World.alloc W _ = W1 at HZ HF HC ⊢
  generalize hW : W.heap.size = Z at HZ ⊢
  have HW := Lib.hid hW
  clear hW
  go_upto_region 2 with (first
    | (go_at_call 42; refine HC.out.mono ?_; unfold tmE; rintro e w2 ⟨rfl, f2⟩; have F2 := Lib.hid f2; clear f2)
    | ((with_reducible refine st_gate ?_); refine wpList_store_row rfl 81 (Operand.tmp 6) (Operand.tmp 12) rfl w2.heap.size (tcs t) rfl rfl _ (tcs tz) (RowAt.new w2 _ _) (tcs_size t) rfl (tcs_one t) ?_; rw [World.setRow_alloc_new]))
  have HX := Lib.hid (RowAt.new w2 81 (tcs t))
  have HF2 : Hid (Fr No W1 (w2.alloc (.cells (tcs t) 81))) := F2.out.trans (Fr.alloc _ _ _)
  generalize World.alloc w2 _ = W3 at HX HF2 ⊢
  generalize w2.heap.size = X at HX ⊢
  have HZ3 := Lib.hid (HZ.out.fr HF2.out id)
  have HSP : Hid (W3.rangeAt X 6 [Value.int .i64 t.f, .int .i64 t.i, .int .i64 t.t]) := fun j v hv => by
    match j, hv with
    | 0, hv => cases hv; exact HX.out.cell 6
    | 1, hv => cases hv; exact HX.out.cell 7
    | 2, hv => cases hv; exact HX.out.cell 8
  go_wp2_with (first
    | ((with_reducible refine ld_gate ?_); refine wpList_load_mid rfl 31 (Operand.tmp 14) rfl X 6 rfl [_, _, _] _ HSP.out Try.underlying31 rfl size_spec ?_; go_frame)
    | ((with_reducible refine st_gate ?_); refine wpList_store_row rfl 31 (Operand.tmp 4) (Operand.tmp 15) rfl Z #[.int .i64 t.f, .int .i64 t.i, .int .i64 t.t] rfl rfl _ _ HZ3.out size_spec rfl (by simp [Value.oneCell']) ?_))
  refine bodyPost_ret (v := .tuple #[.agg #[.int .i64 t.f, .int .i64 t.i, .int .i64 t.t], .int .i64 z]) (results_row_tmp rfl _ _ Z 31 _ _ _ rfl (setRow_heap _ _ _ _ _ _ HZ3.out) Try.underlying31 rfl size_spec rfl) rfl ⟨rfl, (HF.out.trans HF2.out).setNew (by rw [HW.out]; exact Nat.le_refl _)⟩
theorem get_some {W : World} {B b : Nat} {l : TS} {c : Int} (h : TQ W B b l c) {x : Int} (hx : isW x) {t : Tm} (hg : get l x = some t) : Calls Try.prog 22 #[.pointer (some ⟨B, 0, none⟩), .int .i64 x] W fun e w' => e = .returned (.tuple #[spOf t, .int .i64 0]) ∧ Fr No W w' :=
  get_any fun W2 f => find_some (h.no f) hx hg
theorem get_none {W : World} {B b : Nat} {l : TS} {c : Int} (h : TQ W B b l c) {x : Int} (hx : isW x) (hg : get l x = none) : Calls Try.prog 22 #[.pointer (some ⟨B, 0, none⟩), .int .i64 x] W fun e w' => e = .returned (.tuple #[spOf tz, .int .i64 3]) ∧ Fr No W w' :=
  get_any fun W2 f => find_none (h.no f) hx hg
theorem get_nilp (x : Int) (W : World) : Calls Try.prog 22 #[.pointer none, .int .i64 x] W fun e w' => e = .returned (.tuple #[spOf tz, .int .i64 35]) ∧ Fr No W w' :=
  get_any fun W2 f => find_nil x W2
end Go.Proofs.Ytkjokmfhmppinaa
