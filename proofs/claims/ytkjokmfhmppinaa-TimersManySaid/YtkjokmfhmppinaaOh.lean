/- Timers: Set, where it sets. -/
import Derived.Test.YtkjokmfhmppinaaOg
namespace Go.Proofs.Ytkjokmfhmppinaa
open Go.RowKit Go.Maps
set_option linter.unusedVariables false

theorem len_ins_old {x : Int} {t : Tm} : ∀ {l : TS}, SortedT l → ∀ {u : Tm}, get l x = some u → (ins x t l).length = l.length
  | [], _, u, h => by cases h
  | p :: r, hs, u, h => by
    obtain ⟨h1, h2⟩ := List.pairwise_cons.1 hs
    rw [get_cons] at h
    by_cases hp : p.1 = x
    · unfold ins; rw [if_neg (by omega), if_pos hp.symm]; rfl
    · rw [if_neg hp] at h
      have := h1 _ (get_mem h)
      unfold ins
      rw [if_neg (by simp at this; omega), if_neg (Ne.symm hp)]
      simp [len_ins_old h2 h]
theorem TQ.put_old {W W' : World} {B b : Nat} {l : TS} {c : Int} (h : TQ W B b l c) {x : Int} {u t : Tm} (hg : get l x = some u) (hf : Fr (fun k => k = b) W W') (hm : TM W' b (ins x t l)) : TQ W' B b (ins x t l) c :=
  ⟨h.row.fr hf (fun e => h.ne e.symm), hm, sorted_ins h.sorted, by rw [len_ins_old h.sorted hg]; exact h.len, fun p hp => by
    rcases mem_ins hp with rfl | hp
    · exact h.key (x, u) (get_mem hg)
    · exact h.key p hp⟩
/-- A timer with another specification. -/
def Tm.sp (u : Tm) (f i t : Int) : Tm := { u with f := f, i := i, t := t }
set_option maxRecDepth 100000 in
set_option maxHeartbeats 2000000 in
theorem set_ok {W : World} {B b : Nat} {l : TS} {c : Int} (h : TQ W B b l c) {x : Int} (hx : isW x) {u : Tm} (hg : get l x = some u) (f i t : Int) (hr : spOk f i t = true) :
    Calls Try.prog 24 #[.pointer (some ⟨B, 0, none⟩), .int .i64 x, spV f i t] W fun e w' => e = .returned (.tuple #[spOf u, .int .i64 0]) ∧ TQ w' B b (ins x (u.sp f i t) l) c ∧ Fr (fun k => k = b) W w' := by
  have HY := Lib.hid ((RowAt.new W 31 #[.int .i64 f, .int .i64 i, .int .i64 t]).fr (Fr.alloc No _ (.cells sz 31)) id)
  have HZ := Lib.hid (RowAt.new (W.alloc (.cells #[.int .i64 f, .int .i64 i, .int .i64 t] 31)) 31 sz)
  rw [show (W.alloc (.cells #[.int .i64 f, .int .i64 i, .int .i64 t] 31)).heap.size = W.heap.size + 1 from by simp] at HZ
  have HF : Hid (Fr No W ((W.alloc (.cells #[.int .i64 f, .int .i64 i, .int .i64 t] 31)).alloc (.cells sz 31))) := (Fr.alloc _ _ _).trans (Fr.alloc _ _ _)
  have HC := Lib.hid (find_some (h.no HF.out) hx hg)
  have HR := Lib.hid hr
  have HS := Lib.hid h
  have HX := Lib.hid hx
  have HG := Lib.hid hg
  clear h hx hg hr
  unfold sz at HZ HF HC HY
  unfold spV
  go_enter Try.func24, Try.ntmps24
  go_upto_region 1 with (fail)
  generalize World.alloc (World.alloc W _) _ = W1 at HY HZ HF HC ⊢
  have HW : Hid (W.heap.size ≤ W.heap.size + 1) := by show _ ≤ _; omega
  generalize W.heap.size + 1 = Z at HZ HW ⊢
  generalize hY : W.heap.size = Y at HY HW ⊢
  have HY' := Lib.hid hY
  clear hY
  go_upto_region 4 with (first
    | (go_at_call 42; refine HC.out.mono ?_; unfold tmE; rintro e w2 ⟨rfl, f2⟩; have F2 := Lib.hid f2; clear f2)
    | ((with_reducible refine st_gate ?_); refine wpList_store_row rfl 81 (Operand.tmp 8) (Operand.tmp 15) rfl w2.heap.size (tcs u) rfl rfl _ (tcs tz) (RowAt.new w2 _ _) (tcs_size u) rfl (tcs_one u) ?_; rw [World.setRow_alloc_new]))
  have HF3 : Hid (Fr No W1 (w2.alloc (.cells (tcs u) 81))) := F2.out.trans (Fr.alloc _ _ _)
  have HX3 := Lib.hid (RowAt.new w2 81 (tcs u))
  have HXW : Hid (W.heap.size ≤ w2.heap.size) := Nat.le_trans HF.out.size F2.out.size
  have HZX0 : Hid (Z < w2.heap.size) := Nat.lt_of_lt_of_le HZ.out.lt F2.out.size
  generalize World.alloc w2 _ = W3 at HF3 HX3 ⊢
  generalize w2.heap.size = X at HX3 HXW HZX0 ⊢
  have HZ3 := Lib.hid (HZ.out.fr HF3.out id)
  have HY3 := Lib.hid (HY.out.fr HF3.out id)
  have c0 : W3.cell? ⟨Y, 0, none⟩ = some (.int .i64 f) := HY3.out.cell 0
  have c1 : W3.cell? ⟨Y, 1, none⟩ = some (.int .i64 i) := HY3.out.cell 1
  have c2 : W3.cell? ⟨Y, 2, none⟩ = some (.int .i64 t) := HY3.out.cell 2
  have HT1 := Lib.hid (fun w => istime_any f w)
  have HT2 := Lib.hid (fun w => istime_any i w)
  have HT3 := Lib.hid (fun w => istime_any t w)
  have hr := HR.out
  simp only [spOk, Bool.and_eq_true] at hr
  rw [hr.1.1] at HT1
  rw [hr.1.2] at HT2
  rw [hr.2] at HT3
  clear hr
  have HSP : Hid (W3.rangeAt X 6 [Value.int .i64 u.f, .int .i64 u.i, .int .i64 u.t]) := fun j v hv => by
    match j, hv with
    | 0, hv => cases hv; exact HX3.out.cell 6
    | 1, hv => cases hv; exact HX3.out.cell 7
    | 2, hv => cases hv; exact HX3.out.cell 8
  go_upto_region 7 with (first
    | (go_at_call 45; refine (HT1.out _).mono ?_; rintro e w5 ⟨rfl, f5⟩; subst f5; clear HT1)
    | (go_at_call 45; refine (HT2.out _).mono ?_; rintro e w5 ⟨rfl, f5⟩; subst f5; clear HT2)
    | (go_at_call 45; refine (HT3.out _).mono ?_; rintro e w5 ⟨rfl, f5⟩; subst f5; clear HT3)
    | ((with_reducible refine ld_gate ?_); refine wpList_load_mid rfl 31 (Operand.tmp 38) rfl X 6 rfl [_, _, _] _ HSP.out Try.underlying31 rfl size_spec ?_; go_frame)
    | ((with_reducible refine st_gate ?_); refine wpList_store_row rfl 31 (Operand.tmp 10) (Operand.tmp 39) rfl W3.heap.size #[.int .i64 u.f, .int .i64 u.i, .int .i64 u.t] rfl rfl _ sz (RowAt.new W3 _ _) size_spec rfl (by simp [Value.oneCell']) ?_; rw [World.setRow_alloc_new]))
  clear c0 c1 c2 HSP
  have HO := Lib.hid (RowAt.new W3 31 #[.int .i64 u.f, .int .i64 u.i, .int .i64 u.t])
  have HF4 : Hid (Fr No W3 (W3.alloc (.cells #[.int .i64 u.f, .int .i64 u.i, .int .i64 u.t] 31))) := Fr.alloc _ _ _
  have HOX : Hid (X < W3.heap.size) := HX3.out.lt
  generalize World.alloc W3 _ = W4 at HO HF4 ⊢
  generalize W3.heap.size = O at HO HOX ⊢
  have HX4 := Lib.hid (HX3.out.fr HF4.out id)
  have HY4 := Lib.hid (HY3.out.fr HF4.out id)
  have c6 : W4.cell? ⟨X, 6, none⟩ = some (.int .i64 u.f) := HX4.out.cell 6
  have c7 : W4.cell? ⟨X, 7, none⟩ = some (.int .i64 u.i) := HX4.out.cell 7
  have c8 : W4.cell? ⟨X, 8, none⟩ = some (.int .i64 u.t) := HX4.out.cell 8
  have f6 : W4.frozen? ⟨X, 6, none⟩ = false := HX4.out.frozen 6
  have f7 : W4.frozen? ⟨X, 7, none⟩ = false := HX4.out.frozen 7
  have f8 : W4.frozen? ⟨X, 8, none⟩ = false := HX4.out.frozen 8
  go_upto_region 8 with (first
    | ((with_reducible refine ld_gate ?_); refine wpList_load_mid rfl 31 (Operand.tmp 5) rfl Y 0 rfl [_, _, _] _ HY4.out.range Try.underlying31 rfl size_spec ?_; go_frame))
  clear c6 c7 c8 f6 f7 f8
  have HX5 : Hid (RowAt (((W4.setCell ⟨X, 6, none⟩ (.int .i64 f)).setCell ⟨X, 7, none⟩ (.int .i64 i)).setCell ⟨X, 8, none⟩ (.int .i64 t)) X 81 (tcs (u.sp f i t))) := ((HX4.out.set 6 _).set 7 _).set 8 _
  have HF5 : Hid (Fr No W (((W4.setCell ⟨X, 6, none⟩ (.int .i64 f)).setCell ⟨X, 7, none⟩ (.int .i64 i)).setCell ⟨X, 8, none⟩ (.int .i64 t))) := ((((HF.out.trans HF3.out).trans HF4.out).setNewC HXW.out).setNewC HXW.out).setNewC HXW.out
  have HZX : Hid (Z ≠ X) := by have := HZX0.out; show _ ≠ _; omega
  have HO5 : Hid (RowAt (((W4.setCell ⟨X, 6, none⟩ (.int .i64 f)).setCell ⟨X, 7, none⟩ (.int .i64 i)).setCell ⟨X, 8, none⟩ (.int .i64 t)) O 31 #[.int .i64 u.f, .int .i64 u.i, .int .i64 u.t]) := ((HO.out.other (by have := HOX.out; omega) _ _).other (by have := HOX.out; omega) _ _).other (by have := HOX.out; omega) _ _
  have HZ5 : Hid (RowAt (((W4.setCell ⟨X, 6, none⟩ (.int .i64 f)).setCell ⟨X, 7, none⟩ (.int .i64 i)).setCell ⟨X, 8, none⟩ (.int .i64 t)) Z 31 sz) := (((HZ3.out.fr HF4.out id).other HZX.out _ _).other HZX.out _ _).other HZX.out _ _
  generalize World.setCell (World.setCell (World.setCell W4 _ _) _ _) _ _ = W5 at HX5 HF5 HO5 HZ5 ⊢
  have HS5 := Lib.hid (HS.out.no HF5.out)
  have HM := Lib.hid ((HS5.out.map.fr (Fr.drew No _) id).put HS.out.sorted (by have := HS.out.len; omega) HX.out (u.sp f i t))
  have b0 : W5.cell? ⟨B, 0, none⟩ = some (.map (some b)) := HS5.out.row.cell 0
  have x0 : W5.cell? ⟨X, 0, none⟩ = some (.int .i64 u.o) := HX5.out.cell 0
  have x1 : W5.cell? ⟨X, 1, none⟩ = some (.int .i64 u.k) := HX5.out.cell 1
  have x2 : W5.cell? ⟨X, 2, none⟩ = some (.int .i64 u.c) := HX5.out.cell 2
  have x3 : W5.cell? ⟨X, 3, none⟩ = some (.int .i64 u.p) := HX5.out.cell 3
  have x4 : W5.cell? ⟨X, 4, none⟩ = some (.int .i64 u.d) := HX5.out.cell 4
  have x5 : W5.cell? ⟨X, 5, none⟩ = some (.int .i64 u.v) := HX5.out.cell 5
  have x6 : W5.cell? ⟨X, 6, none⟩ = some (.int .i64 f) := HX5.out.cell 6
  have x7 : W5.cell? ⟨X, 7, none⟩ = some (.int .i64 i) := HX5.out.cell 7
  have x8 : W5.cell? ⟨X, 8, none⟩ = some (.int .i64 t) := HX5.out.cell 8
  obtain ⟨W6, m1, m2, m3⟩ := HM.out
  have HM6 := Lib.hid m2
  have HF6 := Lib.hid m3
  have m0 : (Instr.mapUpdate 65 (.map (some b)) (.int .i64 x) (.agg #[.int .i64 u.o, .int .i64 u.k, .int .i64 u.c, .int .i64 u.p, .int .i64 u.d, .int .i64 u.v, .int .i64 f, .int .i64 i, .int .i64 t])).run Try.prog W5.drew = .ok () W6 := m1
  clear m1 m2 m3 HM
  have HX6 : Hid (RowAt W6 X 81 (tcs (u.sp f i t))) := (HX5.out.fr (Fr.drew No _) id).fr HF6.out (by have := HS.out.map.lt; have := HXW.out; show ¬ X = b; omega)
  have HR6 : Hid (RowAt W6 B 67 #[.map (some b), .int .i64 c]) := (HS5.out.row.fr (Fr.drew No _) id).fr HF6.out (fun e => HS.out.ne e.symm)
  have HK6 : Hid (W6.cell? ⟨B, 0, none⟩ = some (.map (some b)) ∧ (W6.cell? ⟨X, 0, none⟩ = some (.int .i64 u.o) ∧ W6.cell? ⟨X, 1, none⟩ = some (.int .i64 u.k) ∧ W6.cell? ⟨X, 2, none⟩ = some (.int .i64 u.c) ∧ W6.cell? ⟨X, 3, none⟩ = some (.int .i64 u.p) ∧ W6.cell? ⟨X, 4, none⟩ = some (.int .i64 u.d) ∧ W6.cell? ⟨X, 5, none⟩ = some (.int .i64 u.v) ∧ W6.cell? ⟨X, 6, none⟩ = some (.int .i64 f) ∧ W6.cell? ⟨X, 7, none⟩ = some (.int .i64 i) ∧ W6.cell? ⟨X, 8, none⟩ = some (.int .i64 t))) :=
    ⟨HR6.out.cell 0, HX6.out.cell 0, HX6.out.cell 1, HX6.out.cell 2, HX6.out.cell 3, HX6.out.cell 4, HX6.out.cell 5, HX6.out.cell 6, HX6.out.cell 7, HX6.out.cell 8⟩
  go_region_held3 (fun w' => w'.cell? ⟨B, 0, none⟩ = some (.map (some b)) ∧ (w'.cell? ⟨X, 0, none⟩ = some (.int .i64 u.o) ∧ w'.cell? ⟨X, 1, none⟩ = some (.int .i64 u.k) ∧ w'.cell? ⟨X, 2, none⟩ = some (.int .i64 u.c) ∧ w'.cell? ⟨X, 3, none⟩ = some (.int .i64 u.p) ∧ w'.cell? ⟨X, 4, none⟩ = some (.int .i64 u.d) ∧ w'.cell? ⟨X, 5, none⟩ = some (.int .i64 u.v) ∧ w'.cell? ⟨X, 6, none⟩ = some (.int .i64 f) ∧ w'.cell? ⟨X, 7, none⟩ = some (.int .i64 i) ∧ w'.cell? ⟨X, 8, none⟩ = some (.int .i64 t)))
    (first | (exact ⟨b0, x0, x1, x2, x3, x4, x5, x6, x7, x8⟩) | (exact HK6.out))
    (fail)
  clear b0 x0 x1 x2 x3 x4 x5 x6 x7 x8 m0
  have HF7 : Hid (Fr (fun k => k = b) W W6) := (HF5.out.any.trans (Fr.drew _ _)).trans HF6.out
  have HO6 := Lib.hid ((HO5.out.fr (Fr.drew No _) id).fr HF6.out (by have := HS.out.map.lt; have := HXW.out; have := HOX.out; show ¬ O = b; omega))
  have HZ6 := Lib.hid ((HZ5.out.fr (Fr.drew No _) id).fr HF6.out (by have := HS.out.map.lt; have := HY'.out; have := HW.out; show ¬ Z = b; omega))
  go_wp2_with (first
    | ((with_reducible refine ld_gate ?_); refine wpList_load_mid rfl 31 (Operand.tmp 10) rfl O 0 rfl [_, _, _] _ HO6.out.range Try.underlying31 rfl size_spec ?_; go_frame)
    | ((with_reducible refine st_gate ?_); refine wpList_store_row rfl 31 (Operand.tmp 6) (Operand.tmp 48) rfl Z #[.int .i64 u.f, .int .i64 u.i, .int .i64 u.t] rfl rfl _ _ HZ6.out size_spec rfl (by simp [Value.oneCell']) ?_))
  have hzw : W.heap.size ≤ Z := by rw [HY'.out]; exact HW.out
  refine bodyPost_ret (v := .tuple #[.agg #[.int .i64 u.f, .int .i64 u.i, .int .i64 u.t], .int .i64 0]) (results_row_tmp rfl _ _ Z 31 _ _ _ rfl (setRow_heap _ _ _ _ _ _ HZ6.out) Try.underlying31 rfl size_spec rfl) rfl ⟨rfl, ?_, HF7.out.setNew hzw⟩
  refine HS.out.put_old HG.out (HF7.out.setNew hzw) (HM6.out.fr (Fr.setRow (S := fun k => k = Z) _ _ _ rfl) ?_)
  have := HS.out.map.lt
  show ¬ b = Z
  omega
end Go.Proofs.Ytkjokmfhmppinaa
