/- Interrupts: Contains over an order, find. -/
import Derived.Test.YtbnchmhhhildnaaXg
namespace Go.Proofs.Ytbnchmhhhildnaa
open Go.RowKit Go.Maps
set_option linter.unusedVariables false

theorem contains_ol {W : World} {a : Option Addr} {cap : Nat} {o : List Int} (h : OL W (.slice a o.length cap) o) (ho : o.length ≤ 1000) (x : Int) : Calls Try.prog 60 #[.slice a o.length cap, .int .i64 x] W fun e w' => e = .returned (.bool (o.contains x)) ∧ W = w' := by
  by_cases h0 : o = []
  · subst h0
    exact (Try.slices_Contains_int_empty a cap x W).mono fun e w' ⟨h1, h2⟩ => ⟨h1, h2.symm⟩
  · obtain ⟨g, cap', e⟩ := own_slice2 h (fun e => h0 (List.length_eq_zero_iff.1 e))
    cases e
    refine (Try.slices_Contains_int g 0 o.length cap o x W (Nat.le_refl _) (by omega) (fun j hj => ?_)).mono fun e w' ⟨h1, h2⟩ => ⟨by rw [h1, List.take_length], h2.symm⟩
    rw [Nat.zero_add]
    have := OL.cell h (List.getElem?_eq_getElem hj)
    rw [this]
    simp [hj]
theorem Fr.setNew {S : Nat → Prop} {W W1 : World} {Z : Nat} {cs : Array Value} (h : Fr S W W1) (hz : W.heap.size ≤ Z) : Fr S W (W1.setRow Z cs) :=
  h.over (Fr.setRow (S := fun k => k = Z) _ _ _ rfl) (fun i e => .inr (by subst e; exact hz))
theorem Fr.setNewC {S : Nat → Prop} {W W1 : World} {Z i : Nat} {v : Value} (h : Fr S W W1) (hz : W.heap.size ≤ Z) : Fr S W (W1.setCell ⟨Z, i, none⟩ v) :=
  h.over (Fr.set (S := fun k => k = Z) _ _ _ _ rfl) (fun i e => .inr (by subst e; exact hz))
def kE (x y : Int) : Value := .agg #[.int .i64 x, .int .i64 y]
set_option maxRecDepth 100000 in
set_option maxHeartbeats 1000000 in
theorem find_err {W : World} {a : Option Addr} {n x z : Int} (hz : z ≠ 0) (hf : ∀ W2, Fr No W W2 → Calls Try.prog 39 #[.pointer a, .int .i64 n] W2 fun e w' => e = .returned (.int .i64 z) ∧ W2 = w') :
    Calls Try.prog 46 #[.pointer a, .int .i64 n, .int .i64 x] W fun e w' => e = .returned (.tuple #[kE 0 0, .int .i64 z]) ∧ Fr No W w' := by
  have HZ := Lib.hid (RowAt.new W 81 (cnc (0, 0)))
  have HF : Hid (Fr No W (W.alloc (.cells (cnc (0, 0)) 81))) := Fr.alloc _ _ _
  have HC := Lib.hid (hf _ HF.out)
  have hz' : (z != 0) = true := by simpa using hz
  clear hf hz
  unfold cnc at HZ HF HC
  go_enter Try.func46, Try.ntmps46
  go_upto_region 1 with (fail)
  generalize World.alloc W _ = W1 at HZ HF HC ⊢
  generalize hW : W.heap.size = Z at HZ ⊢
  have HW := Lib.hid hW
  clear hW
  go_wp2_with (first
    | (go_at_call 39; refine HC.out.mono ?_; rintro e w2 ⟨rfl, f2⟩; subst f2)
    | ((with_reducible refine st_gate ?_); refine wpList_store_row rfl 81 (Operand.tmp 6) (Operand.tmp 14) rfl Z (cnc (0, 0)) rfl rfl _ (cnc (0, 0)) HZ.out size_cnt rfl (cnc_one _) ?_))
  refine bodyPost_ret (v := .tuple #[kE 0 0, .int .i64 z]) (results_row_tmp rfl _ _ Z 81 _ _ _ rfl (setRow_heap _ _ _ _ _ _ HZ.out) Try.underlying81 rfl size_cnt rfl) rfl ⟨rfl, HF.out.setNew (by rw [HW.out]; exact Nat.le_refl _)⟩
/-- What a find answers behind its check. -/
def fdB (o : List Int) (x : Int) : Bool := x == -1 || o.contains x
set_option maxRecDepth 100000 in
set_option maxHeartbeats 1000000 in
theorem find_own {W : World} {O : Nat → Prop} {B : Nat} {y : LY} {s : IS} (h : CM W O B y s) (hk : IOk s) {n : Nat} {l : IL} (hl : s.ls[n]? = some l) :
    Calls Try.prog 46 #[.pointer (some ⟨B, 0, none⟩), .int .i64 (n : Int), .int .i64 (-1)] W fun e w' => e = .returned (.tuple #[kE n (-1), .int .i64 0]) ∧ Fr No W w' := by
  have HZ := Lib.hid (RowAt.new W 81 (cnc (0, 0)))
  have HF : Hid (Fr No W (W.alloc (.cells (cnc (0, 0)) 81))) := Fr.alloc _ _ _
  have hn := (List.getElem?_eq_some_iff.1 hl).1
  have hv : ckL s.ls.length n = 0 := by unfold ckL; rw [if_pos (by omega)]
  have hc := check_any (h.no HF.out) hk.n0 n
  rw [hv] at hc
  have HC := Lib.hid hc
  clear h hk hl hn hv hc
  unfold cnc at HZ HF HC
  go_enter Try.func46, Try.ntmps46
  go_upto_region 1 with (fail)
  generalize World.alloc W _ = W1 at HZ HF HC ⊢
  generalize hW : W.heap.size = Z at HZ ⊢
  have HW := Lib.hid hW
  clear hW
  go_wp2_with (first
    | (go_at_call 39; refine HC.out.mono ?_; rintro e w2 ⟨rfl, f2⟩; subst f2)
    | ((with_reducible refine st_gate ?_); refine wpList_store_row rfl 81 (Operand.tmp 6) (Operand.tmp 34) rfl Z (cnc (n, -1)) rfl rfl _ (cnc (0, 0)) HZ.out size_cnt rfl (cnc_one _) ?_))
  refine bodyPost_ret (v := .tuple #[kE n (-1), .int .i64 0]) (results_row_tmp rfl _ _ Z 81 _ _ _ rfl (setRow_heap _ _ _ _ _ _ HZ.out) Try.underlying81 rfl size_cnt rfl) rfl ⟨rfl, HF.out.setNew (by rw [HW.out]; exact Nat.le_refl _)⟩
set_option maxRecDepth 100000 in
set_option maxHeartbeats 1000000 in
theorem find_in {W : World} {O : Nat → Prop} {B : Nat} {y : LY} {s : IS} (h : CM W O B y s) (hk : IOk s) {n : Nat} {l : IL} (hl : s.ls[n]? = some l) {x : Int} (hx : x ≠ -1) (b : Bool) (hb : l.o.contains x = b) :
    Calls Try.prog 46 #[.pointer (some ⟨B, 0, none⟩), .int .i64 (n : Int), .int .i64 x] W fun e w' => e = .returned (.tuple #[cond b (kE n x) (kE 0 0), .int .i64 (cond b 0 3)]) ∧ Fr No W w' := by
  have HZ := Lib.hid (RowAt.new W 81 (cnc (0, 0)))
  have HF : Hid (Fr No W (W.alloc (.cells (cnc (0, 0)) 81))) := Fr.alloc _ _ _
  have hn := (List.getElem?_eq_some_iff.1 hl).1
  have n0 : (0 : Int) ≤ (n : Int) := by omega
  have n1 : (n : Int) < (s.ls.length : Nat) := by omega
  have hv : ckL s.ls.length n = 0 := by unfold ckL; rw [if_pos (by omega)]
  have h1 := h.no HF.out
  have hc := check_any h1 hk.n0 n
  rw [hv] at hc
  have HC := Lib.hid hc
  obtain ⟨a, cap, hs⟩ := h1.vs hl
  have hcn := contains_ol (h1.ord n l _ hl hs) (by have := hk.olen hl; omega) x
  rw [hb] at hcn
  have HN := Lib.hid hcn
  have HR := Lib.hid (h1.row.cell 0)
  have HQ := Lib.hid (h1.lines.cells hl hs).2.1
  have hx' : (x != -1) = true := by simpa using hx
  clear h h1 hk hl hn hv hc hcn hb hx hs
  unfold cnc at HZ HF HC HN HR HQ
  go_enter Try.func46, Try.ntmps46
  go_upto_region 1 with (fail)
  generalize World.alloc W _ = W1 at HZ HF HC HN HR HQ ⊢
  generalize hW : W.heap.size = Z at HZ ⊢
  have HW := Lib.hid hW
  clear hW
  have c0 : W1.cell? ⟨B, 0, none⟩ = some (.slice (some ⟨y.b, 0, none⟩) s.ls.length y.cap) := HR.out
  have q1 : W1.cell? ⟨y.b, n * 4 + 1, none⟩ = some (.slice a l.o.length cap) := HQ.out
  cases b
  · go_wp2_with (first
      | (go_at_call 39; refine HC.out.mono ?_; rintro e w2 ⟨rfl, f2⟩; subst f2)
      | (go_at_call 60; refine HN.out.mono ?_; rintro e w2 ⟨rfl, f2⟩; subst f2)
      | ((with_reducible refine st_gate ?_); refine wpList_store_row rfl 81 (Operand.tmp 6) (Operand.tmp 31) rfl Z (cnc (0, 0)) rfl rfl _ (cnc (0, 0)) HZ.out size_cnt rfl (cnc_one _) ?_))
    refine bodyPost_ret (v := .tuple #[kE 0 0, .int .i64 3]) (results_row_tmp rfl _ _ Z 81 _ _ _ rfl (setRow_heap _ _ _ _ _ _ HZ.out) Try.underlying81 rfl size_cnt rfl) rfl ⟨rfl, HF.out.setNew (by rw [HW.out]; exact Nat.le_refl _)⟩
  · go_wp2_with (first
      | (go_at_call 39; refine HC.out.mono ?_; rintro e w2 ⟨rfl, f2⟩; subst f2)
      | (go_at_call 60; refine HN.out.mono ?_; rintro e w2 ⟨rfl, f2⟩; subst f2)
      | ((with_reducible refine st_gate ?_); refine wpList_store_row rfl 81 (Operand.tmp 6) (Operand.tmp 34) rfl Z (cnc (n, x)) rfl rfl _ (cnc (0, 0)) HZ.out size_cnt rfl (cnc_one _) ?_))
    refine bodyPost_ret (v := .tuple #[kE n x, .int .i64 0]) (results_row_tmp rfl _ _ Z 81 _ _ _ rfl (setRow_heap _ _ _ _ _ _ HZ.out) Try.underlying81 rfl size_cnt rfl) rfl ⟨rfl, HF.out.setNew (by rw [HW.out]; exact Nat.le_refl _)⟩
/-- The error of a find. -/
def fdE (s : IS) (n x : Int) : Int := if 0 ≤ n ∧ n < s.ls.length then (if x = -1 then 0 else match s.ls[n.toNat]? with | some l => if l.o.contains x then 0 else 3 | none => 0) else 34
def fdK (s : IS) (n x : Int) : Value := if fdE s n x = 0 then kE n x else kE 0 0
theorem find_any {W : World} {O : Nat → Prop} {B : Nat} {y : LY} {s : IS} (h : CM W O B y s) (hk : IOk s) (n x : Int) :
    Calls Try.prog 46 #[.pointer (some ⟨B, 0, none⟩), .int .i64 n, .int .i64 x] W fun e w' => e = .returned (.tuple #[fdK s n x, .int .i64 (fdE s n x)]) ∧ Fr No W w' := by
  by_cases hn : 0 ≤ n ∧ n < s.ls.length
  · obtain ⟨m, rfl⟩ : ∃ m : Nat, n = m := ⟨n.toNat, by omega⟩
    have hm : m < s.ls.length := by omega
    have hl := List.getElem?_eq_getElem hm
    generalize s.ls[m] = l at hl
    by_cases hx : x = -1
    · subst hx
      have e1 : fdE s m (-1) = 0 := by unfold fdE; rw [if_pos hn, if_pos rfl]
      unfold fdK
      rw [e1, if_pos rfl]
      exact find_own h hk hl
    · have e1 : fdE s m x = if l.o.contains x then 0 else 3 := by unfold fdE; rw [if_pos hn, if_neg hx, Int.toNat_natCast, hl]
      have := find_in h hk hl hx _ rfl
      unfold fdK
      rw [e1]
      cases hc : l.o.contains x
      · rw [hc] at this; exact this
      · rw [hc] at this; exact this
  · have e1 : fdE s n x = 34 := by unfold fdE; rw [if_neg hn]
    unfold fdK
    rw [e1]
    exact find_err (by omega) fun W2 f => by
      have := check_any (h.no f) hk.n0 n
      rw [show ckL s.ls.length n = 34 from by unfold ckL; rw [if_neg hn]] at this
      exact this
theorem find_nil (n x : Int) (W : World) : Calls Try.prog 46 #[.pointer none, .int .i64 n, .int .i64 x] W fun e w' => e = .returned (.tuple #[kE 0 0, .int .i64 35]) ∧ Fr No W w' :=
  find_err (by omega) fun W2 _ => check_nil n W2
end Go.Proofs.Ytbnchmhhhildnaa
