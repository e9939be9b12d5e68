/- Timers: the order in which they fire: cmp.Compare, cmp.Or, compareDue. -/
import Derived.Test.YtkjokmfhmppinaaOl
namespace Go.Proofs.Ytkjokmfhmppinaa
open Go.RowKit Go.Maps
set_option linter.unusedVariables false

def c3 (x y : Int) : Int := if x < y then -1 else if y < x then 1 else 0
theorem isnan64 (x : Int) (W : World) : Calls Try.prog 87 #[.int .i64 x] W fun e w' => e = .returned (.bool false) ∧ W = w' := by
  go_enter Try.func87, Try.ntmps87
  go_wp2
  go_ret
  exact ⟨by simp, rfl⟩
theorem isnani (x : Int) (W : World) : Calls Try.prog 88 #[.int .i64 x] W fun e w' => e = .returned (.bool false) ∧ W = w' := by
  go_enter Try.func88, Try.ntmps88
  go_wp2
  go_ret
  exact ⟨by simp, rfl⟩
theorem cmp64 (x y : Int) (W : World) : Calls Try.prog 66 #[.int .i64 x, .int .i64 y] W fun e w' => e = .returned (.int .i64 (c3 x y)) ∧ W = w' := by
  by_cases h1 : x < y
  · have HV : Hid (c3 x y = -1) := by show _ = _; simp [c3, h1]
    go_enter Try.func66, Try.ntmps66
    go_wp2_with (go_at_call 87; refine (isnan64 _ _).mono ?_; rintro e w2 ⟨rfl, f2⟩; subst f2)
    go_ret
    exact ⟨by rw [HV.out]; rfl, rfl⟩
  · have d1 : decide (x < y) = false := by simpa using h1
    by_cases h2 : y < x
    · have HV : Hid (c3 x y = 1) := by show _ = _; simp [c3, h1, h2]
      clear h1
      go_enter Try.func66, Try.ntmps66
      go_wp2_with (go_at_call 87; refine (isnan64 _ _).mono ?_; rintro e w2 ⟨rfl, f2⟩; subst f2)
      go_ret
      exact ⟨by rw [HV.out]; rfl, rfl⟩
    · have HV : Hid (c3 x y = 0) := by show _ = _; simp [c3, h1, h2]
      have d2 : decide (y < x) = false := by simpa using h2
      clear h1 h2
      go_enter Try.func66, Try.ntmps66
      go_wp2_with (go_at_call 87; refine (isnan64 _ _).mono ?_; rintro e w2 ⟨rfl, f2⟩; subst f2)
      go_ret
      exact ⟨by rw [HV.out]; rfl, rfl⟩
theorem cmpi (x y : Int) (W : World) : Calls Try.prog 67 #[.int .i64 x, .int .i64 y] W fun e w' => e = .returned (.int .i64 (c3 x y)) ∧ W = w' := by
  by_cases h1 : x < y
  · have HV : Hid (c3 x y = -1) := by show _ = _; simp [c3, h1]
    go_enter Try.func67, Try.ntmps67
    go_wp2_with (go_at_call 88; refine (isnani _ _).mono ?_; rintro e w2 ⟨rfl, f2⟩; subst f2)
    go_ret
    exact ⟨by rw [HV.out]; rfl, rfl⟩
  · have d1 : decide (x < y) = false := by simpa using h1
    by_cases h2 : y < x
    · have HV : Hid (c3 x y = 1) := by show _ = _; simp [c3, h1, h2]
      clear h1
      go_enter Try.func67, Try.ntmps67
      go_wp2_with (go_at_call 88; refine (isnani _ _).mono ?_; rintro e w2 ⟨rfl, f2⟩; subst f2)
      go_ret
      exact ⟨by rw [HV.out]; rfl, rfl⟩
    · have HV : Hid (c3 x y = 0) := by show _ = _; simp [c3, h1, h2]
      have d2 : decide (y < x) = false := by simpa using h2
      clear h1 h2
      go_enter Try.func67, Try.ntmps67
      go_wp2_with (go_at_call 88; refine (isnani _ _).mono ?_; rintro e w2 ⟨rfl, f2⟩; subst f2)
      go_ret
      exact ⟨by rw [HV.out]; rfl, rfl⟩
set_option maxHeartbeats 1000000 in
theorem or2 {W : World} {g : Nat} (x y : Int) (h0 : W.cell? ⟨g, 0, none⟩ = some (.int .i64 x)) (h1 : W.cell? ⟨g, 1, none⟩ = some (.int .i64 y)) : Calls Try.prog 65 #[.slice (some ⟨g, 0, none⟩) 2 2] W fun e w' => e = .returned (.int .i64 (if x ≠ 0 then x else y)) ∧ W = w' := by
  by_cases hx : x = 0
  · subst hx
    by_cases hy : y = 0
    · subst hy
      go_enter Try.func65, Try.ntmps65
      go_wp2
      refine wp_loop_rounds 3 ?_
      rw [rounds_succ]
      go_wp2
      rw [rounds_succ]
      go_wp2
      rw [rounds_succ]
      go_wp2
      go_ret
      exact ⟨rfl, rfl⟩
    · have hy' : (y != 0) = true := by simpa using hy
      clear hy
      go_enter Try.func65, Try.ntmps65
      go_wp2
      refine wp_loop_rounds 3 ?_
      rw [rounds_succ]
      go_wp2
      rw [rounds_succ]
      go_wp2
      go_ret
      exact ⟨by simp, rfl⟩
  · have hx' : (x != 0) = true := by simpa using hx
    have HX := Lib.hid hx
    clear hx
    go_enter Try.func65, Try.ntmps65
    go_wp2
    refine wp_loop_rounds 3 ?_
    rw [rounds_succ]
    go_wp2
    go_ret
    exact ⟨by simp [HX.out], rfl⟩
theorem field_sp (o k c p d v f i t : Int) (w : World) : (Instr.field 81 (.agg #[.int .i64 o, .int .i64 k, .int .i64 c, .int .i64 p, .int .i64 d, .int .i64 v, .int .i64 f, .int .i64 i, .int .i64 t]) 2).run Try.prog w = .ok (.agg #[.int .i64 f, .int .i64 i, .int .i64 t]) w := by kernel_rfl
theorem field_f (f i t : Int) (w : World) : (Instr.field 31 (.agg #[.int .i64 f, .int .i64 i, .int .i64 t]) 0).run Try.prog w = .ok (.int .i64 f) w := by kernel_rfl
/-- compareDue. -/
def cdue (l : TS) (a b : Int) : Int :=
  if c3 ((get l a).getD tz).f ((get l b).getD tz).f ≠ 0 then c3 ((get l a).getD tz).f ((get l b).getD tz).f else c3 a b
set_option maxRecDepth 100000 in
set_option maxHeartbeats 1000000 in
theorem cdue_ok {W : World} {B b : Nat} {l : TS} {c : Int} (h : TQ W B b l c) {x y : Int} (hx : isW x) (hy : isW y) : Calls Try.prog 60 #[.pointer (some ⟨B, 0, none⟩), .int .i64 x, .int .i64 y] W fun e w' => e = .returned (.int .i64 (cdue l x y)) ∧ Fr No W w' := by
  have c0 : W.cell? ⟨B, 0, none⟩ = some (.map (some b)) := h.row.cell 0
  have HL1 := (h.map.fr (Fr.drew No _) id).look hx
  have HL2 := (h.map.fr (Fr.drew No _) id).look hy
  have HV : Hid (cdue l x y = if c3 ((get l x).getD tz).f ((get l y).getD tz).f ≠ 0 then c3 ((get l x).getD tz).f ((get l y).getD tz).f else c3 x y) := rfl
  have HR := Lib.hid (fun w f => (h.no (W' := w) f).row)
  generalize (get l x).getD tz = u at HL1 HV
  generalize (get l y).getD tz = v at HL2 HV
  unfold tmE at HL1 HL2
  have q1 := field_sp u.o u.k u.c u.p u.d u.v u.f u.i u.t
  have q2 := field_sp v.o v.k v.c v.p v.d v.v v.f v.i v.t
  have q3 := field_f u.f u.i u.t
  have q4 := field_f v.f v.i v.t
  clear h
  have HO : Hid (Calls Try.prog 65 #[.slice (some ⟨W.heap.size, 0, none⟩) 2 2] (W.alloc (.cells #[.int .i64 (c3 u.f v.f), .int .i64 (c3 x y)] 3)).drew fun e w' => e = .returned (.int .i64 (if c3 u.f v.f ≠ 0 then c3 u.f v.f else c3 x y)) ∧ (W.alloc (.cells #[.int .i64 (c3 u.f v.f), .int .i64 (c3 x y)] 3)).drew = w') :=
    or2 (g := W.heap.size) _ _ (RowAt.cell ((RowAt.new W _ _).fr (Fr.drew No _) id) 0) (RowAt.cell ((RowAt.new W _ _).fr (Fr.drew No _) id) 1)
  have HF : Hid (Fr No W (W.alloc (.cells #[.int .i64 (c3 u.f v.f), .int .i64 (c3 x y)] 3)).drew) := (Fr.alloc _ _ _).trans (Fr.drew _ _)
  rw [← HV.out] at HO
  clear HV
  go_enter Try.func60, Try.ntmps60
  go_upto_region 1 with (fail)
  go_region_held3 (fun w' => w'.cell? ⟨B, 0, none⟩ = some (.map (some b)))
    (first | (exact c0) | (exact (HR.out _ HF.out).cell 0))
    (first
      | (go_at_call 66; refine (cmp64 _ _ _).mono ?_; rintro e w3 ⟨rfl, f3⟩; subst f3)
      | (go_at_call 67; refine (cmpi _ _ _).mono ?_; rintro e w4 ⟨rfl, f4⟩; subst f4)
      | (go_at_call 65; refine HO.out.mono ?_; rintro e w5 ⟨rfl, f5⟩; subst f5))
  all_goals (go_wp2; go_ret; exact ⟨rfl, HF.out⟩)
end Go.Proofs.Ytkjokmfhmppinaa
