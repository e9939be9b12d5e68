/- Timers: Create. -/
import Derived.Test.YtkjokmfhmppinaaOi
namespace Go.Proofs.Ytkjokmfhmppinaa
open Go.RowKit Go.Maps
set_option linter.unusedVariables false

set_option maxRecDepth 100000 in
theorem create_nilp (o k c p d v : Int) (W : World) : Calls Try.prog 18 #[.pointer none, .int .i64 o, evV k c p d v] W fun e w' => e = .returned (.tuple #[.int .i64 0, .int .i64 35]) ∧ Fr No W w' := by
  have HF : Hid (Fr No W (W.alloc (.cells #[.int .i64 k, .int .i64 c, .int .i64 p, .int .i64 d, .int .i64 v] 29))) := Fr.alloc _ _ _
  unfold evV
  go_enter Try.func18, Try.ntmps18
  go_wp2_with (go_at_call 34; refine (ismade_nil _).mono ?_; rintro e w2 ⟨rfl, f2⟩; subst f2)
  go_ret2
  exact ⟨rfl, HF.out⟩
set_option maxRecDepth 100000 in
set_option maxHeartbeats 1000000 in
theorem create_err {W : World} {B b : Nat} {l : TS} {c0 : Int} (h : TQ W B b l c0) (o k c p d v : Int) {z : Int} (hz : ckN o k c p d = z) (h0 : z ≠ 0) : Calls Try.prog 18 #[.pointer (some ⟨B, 0, none⟩), .int .i64 o, evV k c p d v] W fun e w' => e = .returned (.tuple #[.int .i64 0, .int .i64 z]) ∧ Fr No W w' := by
  have HF : Hid (Fr No W (W.alloc (.cells #[.int .i64 k, .int .i64 c, .int .i64 p, .int .i64 d, .int .i64 v] 29))) := Fr.alloc _ _ _
  have HE := Lib.hid (RowAt.new W 29 #[.int .i64 k, .int .i64 c, .int .i64 p, .int .i64 d, .int .i64 v])
  have HS := Lib.hid (h.no HF.out)
  have HC := Lib.hid (fun w => checknew_any o k c p d v w)
  rw [hz] at HC
  have hz' : (z != 0) = true := by simpa using h0
  clear h hz h0
  unfold evV at HC ⊢
  go_enter Try.func18, Try.ntmps18
  go_upto_region 1 with (fail)
  generalize World.alloc W _ = W1 at HF HE HS ⊢
  generalize W.heap.size = E at HE ⊢
  go_wp2_with (first
    | (go_at_call 34; refine (ismade_ok HS.out).mono ?_; rintro e w2 ⟨rfl, f2⟩; subst f2)
    | ((with_reducible refine ld_gate ?_); refine wpList_load_mid rfl 29 (Operand.tmp 5) rfl E 0 rfl [_, _, _, _, _] _ HE.out.range Try.underlying29 rfl size_event ?_; go_frame)
    | (go_at_call 40; refine (HC.out _).mono ?_; rintro e w3 ⟨rfl, f3⟩; have F3 := Lib.hid f3; clear f3))
  go_ret2
  exact ⟨rfl, HF.out.trans F3.out⟩
set_option maxRecDepth 100000 in
set_option maxHeartbeats 1000000 in
theorem create_full {W : World} {B b : Nat} {l : TS} {c0 : Int} (h : TQ W B b l c0) (o k c p d v : Int) (hz : ckN o k c p d = 0) (hl : l.length = 1000) : Calls Try.prog 18 #[.pointer (some ⟨B, 0, none⟩), .int .i64 o, evV k c p d v] W fun e w' => e = .returned (.tuple #[.int .i64 0, .int .i64 18]) ∧ Fr No W w' := by
  have HF : Hid (Fr No W (W.alloc (.cells #[.int .i64 k, .int .i64 c, .int .i64 p, .int .i64 d, .int .i64 v] 29))) := Fr.alloc _ _ _
  have HE := Lib.hid (RowAt.new W 29 #[.int .i64 k, .int .i64 c, .int .i64 p, .int .i64 d, .int .i64 v])
  have HS := Lib.hid (h.no HF.out)
  have HC := Lib.hid (fun w => checknew_any o k c p d v w)
  rw [hz] at HC
  have HN := Lib.hid hl
  clear h hz hl
  unfold evV at HC ⊢
  go_enter Try.func18, Try.ntmps18
  go_upto_region 1 with (fail)
  generalize World.alloc W _ = W1 at HF HE HS ⊢
  generalize W.heap.size = E at HE ⊢
  go_upto_region 6 with (first
    | (go_at_call 34; refine (ismade_ok HS.out).mono ?_; rintro e w2 ⟨rfl, f2⟩; subst f2)
    | ((with_reducible refine ld_gate ?_); refine wpList_load_mid rfl 29 (Operand.tmp 5) rfl E 0 rfl [_, _, _, _, _] _ HE.out.range Try.underlying29 rfl size_event ?_; go_frame)
    | (go_at_call 40; refine (HC.out _).mono ?_; rintro e w3 ⟨rfl, f3⟩; have F3 := Lib.hid f3; clear f3))
  have HS3 := Lib.hid (HS.out.no F3.out)
  have c0 : w3.cell? ⟨B, 0, none⟩ = some (.map (some b)) := HS3.out.row.cell 0
  have HL : Hid (∀ ty, (Builtin.len_ #[65] ty #[.map (some b)]).run Try.prog w3 = .ok (.int .i64 1000) w3) := fun ty => by
    have := HS3.out.map.len ty
    rw [HN.out] at this
    exact this
  go_wp2_with (at_len; refine wpList_bi1 rfl _ _ rfl _ rfl _ HL.out ?_)
  go_ret2
  exact ⟨rfl, HF.out.trans F3.out⟩
theorem TQ.put_new {W W' : World} {B b : Nat} {l : TS} {c : Int} (h : TQ W B b l c) {x : Int} {t : Tm} (hg : get l x = none) (hl : l.length < 1000) (h0 : 0 ≤ x) (h1 : x < 1000) (hf : Fr (fun k => k = b) W W') (hm : TM W' b (ins x t l)) : TQ W' B b (ins x t l) c :=
  ⟨h.row.fr hf (fun e => h.ne e.symm), hm, sorted_ins h.sorted, by rw [len_ins_new hg]; omega, fun p hp => by
    rcases mem_ins hp with rfl | hp
    · exact ⟨h0, h1⟩
    · exact h.key p hp⟩
set_option maxRecDepth 100000 in
set_option maxHeartbeats 2000000 in
theorem create_ok {W : World} {B b : Nat} {l : TS} {c0 : Int} (h : TQ W B b l c0) (o k c p d v : Int) (hz : ckN o k c p d = 0) (hl : l.length < 1000) : Calls Try.prog 18 #[.pointer (some ⟨B, 0, none⟩), .int .i64 o, evV k c p d v] W fun e w' => e = .returned (.tuple #[.int .i64 (lf l : Nat), .int .i64 0]) ∧ TQ w' B b (ins (lf l : Nat) ⟨o, k, c, p, d, v, 0, 0, 0⟩ l) c0 ∧ Fr (fun k => k = b) W w' := by
  have HF : Hid (Fr No W (W.alloc (.cells #[.int .i64 k, .int .i64 c, .int .i64 p, .int .i64 d, .int .i64 v] 29))) := Fr.alloc _ _ _
  have HE := Lib.hid (RowAt.new W 29 #[.int .i64 k, .int .i64 c, .int .i64 p, .int .i64 d, .int .i64 v])
  have HSW := Lib.hid h
  have HLF := Lib.hid (lf_ok h)
  have HS := Lib.hid (h.no HF.out)
  have HC := Lib.hid (fun w => checknew_any o k c p d v w)
  rw [hz] at HC
  have HN := Lib.hid hl
  clear h hz hl
  unfold evV at HC ⊢
  go_enter Try.func18, Try.ntmps18
  go_upto_region 1 with (fail)
  generalize World.alloc W _ = W1 at HF HE HS ⊢
  generalize hE : W.heap.size = E at HE ⊢
  have HEW := Lib.hid hE
  clear hE
  go_upto_region 6 with (first
    | (go_at_call 34; refine (ismade_ok HS.out).mono ?_; rintro e w2 ⟨rfl, f2⟩; subst f2)
    | ((with_reducible refine ld_gate ?_); refine wpList_load_mid rfl 29 (Operand.tmp 5) rfl E 0 rfl [_, _, _, _, _] _ HE.out.range Try.underlying29 rfl size_event ?_; go_frame)
    | (go_at_call 40; refine (HC.out _).mono ?_; rintro e w3 ⟨rfl, f3⟩; have F3 := Lib.hid f3; clear f3))
  have HS3 := Lib.hid (HS.out.no F3.out)
  have c0' : w3.cell? ⟨B, 0, none⟩ = some (.map (some b)) := HS3.out.row.cell 0
  have HL : Hid (∀ ty, (Builtin.len_ #[65] ty #[.map (some b)]).run Try.prog w3 = .ok (.int .i64 (l.length : Nat)) w3) := fun ty => HS3.out.map.len ty
  have hl1 : decide (1000 ≤ (l.length : Int)) = false := by have := HN.out; simp; omega
  go_upto_region 9 with (first
    | (at_len; refine wpList_bi1 rfl _ _ rfl _ rfl _ HL.out ?_)
    | (go_at_call 41; refine (leastfree_ok HS3.out).mono ?_; rintro e w4 ⟨rfl, f4⟩; have F4 := Lib.hid f4; clear f4))
  clear c0'
  have HF4 := Lib.hid ((HF.out.trans F3.out).trans F4.out)
  have HS4 := Lib.hid (HS3.out.no F4.out)
  have HE4 := Lib.hid ((HE.out.fr F3.out id).fr F4.out id)
  have HLI : Hid (lf l < 1000) := Nat.lt_of_le_of_lt HLF.out.2.2 HN.out
  have HM := Lib.hid ((HS4.out.map.fr (Fr.drew No _) id).put HSW.out.sorted (by have := HSW.out.len; omega) (isW_nat (n := lf l) (by have := HLI.out; omega)) ⟨o, k, c, p, d, v, 0, 0, 0⟩)
  have b0 : w4.cell? ⟨B, 0, none⟩ = some (.map (some b)) := HS4.out.row.cell 0
  have x0 : w4.cell? ⟨E, 0, none⟩ = some (.int .i64 k) := HE4.out.cell 0
  have x1 : w4.cell? ⟨E, 1, none⟩ = some (.int .i64 c) := HE4.out.cell 1
  have x2 : w4.cell? ⟨E, 2, none⟩ = some (.int .i64 p) := HE4.out.cell 2
  have x3 : w4.cell? ⟨E, 3, none⟩ = some (.int .i64 d) := HE4.out.cell 3
  have x4 : w4.cell? ⟨E, 4, none⟩ = some (.int .i64 v) := HE4.out.cell 4
  obtain ⟨W6, m1, m2, m3⟩ := HM.out
  have HM6 := Lib.hid m2
  have HF6 := Lib.hid m3
  have m0 : (Instr.mapUpdate 65 (.map (some b)) (.int .i64 (lf l : Nat)) (.agg #[.int .i64 o, .int .i64 k, .int .i64 c, .int .i64 p, .int .i64 d, .int .i64 v, .int .i64 0, .int .i64 0, .int .i64 0])).run Try.prog w4.drew = .ok () W6 := m1
  clear m1 m2 m3 HM
  have HX6 := Lib.hid ((HE4.out.fr (Fr.drew No _) id).fr HF6.out (by have := HSW.out.map.lt; have := HEW.out; show ¬ E = b; omega))
  have HR6 := Lib.hid ((HS4.out.row.fr (Fr.drew No _) id).fr HF6.out (fun e => HSW.out.ne e.symm))
  have HK6 : Hid (W6.cell? ⟨B, 0, none⟩ = some (.map (some b)) ∧ W6.cell? ⟨E, 0, none⟩ = some (.int .i64 k) ∧ W6.cell? ⟨E, 1, none⟩ = some (.int .i64 c) ∧ W6.cell? ⟨E, 2, none⟩ = some (.int .i64 p) ∧ W6.cell? ⟨E, 3, none⟩ = some (.int .i64 d) ∧ W6.cell? ⟨E, 4, none⟩ = some (.int .i64 v)) := ⟨HR6.out.cell 0, HX6.out.cell 0, HX6.out.cell 1, HX6.out.cell 2, HX6.out.cell 3, HX6.out.cell 4⟩
  go_region_held3 (fun w' => w'.cell? ⟨B, 0, none⟩ = some (.map (some b)) ∧ w'.cell? ⟨E, 0, none⟩ = some (.int .i64 k) ∧ w'.cell? ⟨E, 1, none⟩ = some (.int .i64 c) ∧ w'.cell? ⟨E, 2, none⟩ = some (.int .i64 p) ∧ w'.cell? ⟨E, 3, none⟩ = some (.int .i64 d) ∧ w'.cell? ⟨E, 4, none⟩ = some (.int .i64 v))
    (first | (exact ⟨b0, x0, x1, x2, x3, x4⟩) | (exact HK6.out))
    (fail)
  clear b0 x0 x1 x2 x3 x4 m0
  have HF7 : Hid (Fr (fun k => k = b) W W6) := (HF4.out.any.trans (Fr.drew _ _)).trans HF6.out
  go_wp2
  go_ret2
  exact ⟨rfl, HSW.out.put_new HLF.out.2.1 HN.out (by omega) (by have := HLI.out; omega) HF7.out HM6.out, HF7.out⟩
end Go.Proofs.Ytkjokmfhmppinaa
