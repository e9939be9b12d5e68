/- Package sched: New. -/
import Derived.Test.YtjaaljcdaamcjaaGreatDe
namespace Go.Proofs.YtjaaljcdaamcjaaGreat
open Go.RowKit Go.Proofs.YtjaaljcdaamcjaaGreat.Pa
set_option linter.unusedVariables false

theorem frD {S : Nat → Prop} {A w : World} (h : Fr S A w) : Fr S A w.drew := h.trans (Fr.drew _ _)
theorem frA {S : Nat → Prop} {A w : World} {o : Obj} (h : Fr S A w) : Fr S A (w.alloc o) := h.trans (Fr.alloc _ _ _)
theorem frSn {A w : World} {S : Nat → Prop} {z i : Nat} {v : Value} (h : Fr S A w) (hz : A.heap.size ≤ z) : Fr S A (w.setCell ⟨z, i, none⟩ v) := Fr.over h (Fr.set (S := fun k => k = z) _ _ _ _ rfl) (fun i e => .inr (by omega))
theorem frY {A w : World} {y i : Nat} {v : Value} (h : Fr (fun k => k = y) A w) : Fr (fun k => k = y) A (w.setCell ⟨y, i, none⟩ v) := h.trans (Fr.set _ _ _ _ rfl)
set_option maxRecDepth 100000 in
theorem new_err (W : World) (win pr : Int) (a : Option Addr) (cap : Nat) (P : List (Int × Int)) (hP : PartsIn W a P) (z : Int) (hz : cfgV win pr P = z) (h0 : z ≠ 0) : Calls Tryz.prog 10 #[.agg #[.int .i64 win, .int .i64 pr, .slice a P.length cap]] W fun e w' => e = .returned (.tuple #[.pointer none, .int .i64 z]) ∧ Fr Non W w' := by
  have hmf := hmf_any
  have HN : Hid (∀ w, Fr Non W w → Calls Tryz.prog 30 #[.agg #[.int .i64 win, .int .i64 pr, .slice a P.length cap]] w fun e w' => e = .returned (.tuple #[.pointer none, .int .i64 z]) ∧ Fr Non w w') := fun w hf => pnew_err w win pr a cap P (hP.fr hf (fun _ _ _ e => e)) z hz h0
  have HV := Lib.hid (valM_err none z h0)
  clear hP hz h0
  go_enter_defers Tryz.func10, Tryz.ntmps10
  go_upto_region 1 with (fail)
  have HF1 : Hid (Fr Non W ((W.alloc (.cells #[.int .i64 win, .int .i64 pr, .slice a P.length cap] 24)).alloc (.cells #[.int .i64 0] 28))) := frA (frA (Fr.refl _ _))
  have HR1 : Hid (RowAt ((W.alloc (.cells #[.int .i64 win, .int .i64 pr, .slice a P.length cap] 24)).alloc (.cells #[.int .i64 0] 28)) W.heap.size 24 #[.int .i64 win, .int .i64 pr, .slice a P.length cap]) := (RowAt.new W _ _).fr (Fr.alloc Non _ _) id
  have HE1 : Hid (RowAt ((W.alloc (.cells #[.int .i64 win, .int .i64 pr, .slice a P.length cap] 24)).alloc (.cells #[.int .i64 0] 28)) (W.heap.size + 1) 28 #[.int .i64 0]) := by
    have := RowAt.new (W.alloc (.cells #[.int .i64 win, .int .i64 pr, .slice a P.length cap] 24)) 28 #[.int .i64 0]
    rw [show (W.alloc (.cells #[.int .i64 win, .int .i64 pr, .slice a P.length cap] 24)).heap.size = W.heap.size + 1 from by simp] at this
    exact this
  generalize World.alloc (World.alloc W _) _ = W1 at HF1 HR1 HE1 ⊢
  obtain ⟨x, hx⟩ : ∃ x, W.heap.size = x := ⟨_, rfl⟩
  have HXX := Lib.hid hx
  rw [hx] at HR1 HE1 ⊢
  clear hx
  generalize hy : x + 1 = y at HE1 ⊢
  have HYY := Lib.hid hy
  clear hy
  have c0 : W1.cell? ⟨x, 0, none⟩ = some (.int .i64 win) := HR1.out.cell 0
  have c1 : W1.cell? ⟨x, 1, none⟩ = some (.int .i64 pr) := HR1.out.cell 1
  have c2 : W1.cell? ⟨x, 2, none⟩ = some (.slice a P.length cap) := HR1.out.cell 2
  go_wp2_with (first
    | (go_at_call 30; refine (HN.out _ HF1.out).mono ?_; rintro e w2 ⟨rfl, f2⟩; have F2 := Lib.hid f2; clear f2 c0 c1 c2)
    | (go_at_call 35; refine (HV.out _).mono ?_; rintro e w3 ⟨rfl, f3⟩; subst f3))
  have e0 : w2.cell? ⟨y, 0, none⟩ = some (.int .i64 0) := (HE1.out.fr F2.out id).cell 0
  have e1 : w2.frozen? ⟨y, 0, none⟩ = false := (HE1.out.fr F2.out id).frozen 0
  refine leaves_cons (f := 33) (args := #[.pointer (some ⟨y, 0, none⟩)]) (by simp) (by simp [go_sem]) ?_
  refine (finNew ⟨y, 0, none⟩ 0 z [] _ e0 e1).mono ?_
  rintro e u' w'' ⟨rfl, rfl, rfl⟩
  simp [Leaves, settle, results, Tryz.results10, go_sem, e0]
  exact frSn (HF1.out.trans F2.out) (by have := HXX.out; have := HYY.out; omega)
set_option maxRecDepth 100000 in
theorem new_ok (W : World) (w p : Nat) (a : Option Addr) (cap : Nat) (P : List (Int × Int)) (hP : PartsIn W a P) (hz : cfgV w p P = 0) : Calls Tryz.prog 10 #[.agg #[.int .i64 (w : Int), .int .i64 (p : Int), .slice a P.length cap]] W fun e w' => ∃ S mb qb, e = .returned (.tuple #[.pointer (some ⟨S, 0, none⟩), .int .i64 0]) ∧ (W.heap.size ≤ S ∧ W.heap.size ≤ mb ∧ W.heap.size ≤ qb ∧ S ≠ mb ∧ S ≠ qb ∧ mb ≠ qb) ∧ SAt w' S ⟨p, P.length, mb, fun _ => none, qb, 0, -1⟩ ∧ MS mb (cfP w p P) 0 [] w' ∧ Rd.QP qb Rd.noL (fun _ => 0) w' ∧ Fr Non W w' := by
  have hmf := hmf_any
  have HN : Hid (∀ W2, Fr Non W W2 → Calls Tryz.prog 30 #[.agg #[.int .i64 (w : Int), .int .i64 (p : Int), .slice a P.length cap]] W2 fun e w' => ∃ B, e = .returned (.tuple #[.pointer (some ⟨B, 0, none⟩), .int .i64 0]) ∧ W2.heap.size ≤ B ∧ MS B (cfP w p P) 0 [] w' ∧ Fr Non W2 w') := fun W2 hf => pnew_ok W2 w p a cap P (hP.fr hf (fun _ _ _ e => e)) hz
  have HL : Hid (P.length ≤ 8) := (cfg_ok hz).2.2.2.1
  clear hP hz
  go_enter_defers Tryz.func10, Tryz.ntmps10
  go_upto_region 1 with (fail)
  have HF1 : Hid (Fr Non W ((W.alloc (.cells #[.int .i64 (w : Int), .int .i64 (p : Int), .slice a P.length cap] 24)).alloc (.cells #[.int .i64 0] 28))) := frA (frA (Fr.refl _ _))
  have HR1 : Hid (RowAt ((W.alloc (.cells #[.int .i64 (w : Int), .int .i64 (p : Int), .slice a P.length cap] 24)).alloc (.cells #[.int .i64 0] 28)) W.heap.size 24 #[.int .i64 (w : Int), .int .i64 (p : Int), .slice a P.length cap]) := (RowAt.new W _ _).fr (Fr.alloc Non _ _) id
  have HE1 : Hid (RowAt ((W.alloc (.cells #[.int .i64 (w : Int), .int .i64 (p : Int), .slice a P.length cap] 24)).alloc (.cells #[.int .i64 0] 28)) (W.heap.size + 1) 28 #[.int .i64 0]) := by
    have := RowAt.new (W.alloc (.cells #[.int .i64 (w : Int), .int .i64 (p : Int), .slice a P.length cap] 24)) 28 #[.int .i64 0]
    rw [show (W.alloc (.cells #[.int .i64 (w : Int), .int .i64 (p : Int), .slice a P.length cap] 24)).heap.size = W.heap.size + 1 from by simp] at this
    exact this
  generalize World.alloc (World.alloc W _) _ = W1 at HF1 HR1 HE1 ⊢
  obtain ⟨x, hx⟩ : ∃ x, W.heap.size = x := ⟨_, rfl⟩
  have HXX := Lib.hid hx
  rw [hx] at HR1 HE1 ⊢
  clear hx
  generalize hy : x + 1 = y at HE1 ⊢
  have HYY := Lib.hid hy
  clear hy
  have c0 : W1.cell? ⟨x, 0, none⟩ = some (.int .i64 (w : Int)) := HR1.out.cell 0
  have c1 : W1.cell? ⟨x, 1, none⟩ = some (.int .i64 (p : Int)) := HR1.out.cell 1
  have c2 : W1.cell? ⟨x, 2, none⟩ = some (.slice a P.length cap) := HR1.out.cell 2
  go_upto_region 3 with (first
    | (go_at_call 30; refine (HN.out _ HF1.out).mono ?_; rintro e w2 ⟨mb, rfl, hmb, hm, f2⟩; have HM := Lib.hid hm; have HMB := Lib.hid hmb; have F2 := Lib.hid f2; clear f2 hm hmb c0 c1 c2)
    | (go_at_call 35; refine (valM_ok _ _).mono ?_; rintro e w3 ⟨rfl, f3⟩; subst f3))
  have d1 : w2.cell? ⟨x, 1, none⟩ = some (.int .i64 (p : Int)) := (HR1.out.fr F2.out id).cell 1
  have d2 : w2.cell? ⟨x, 2, none⟩ = some (.slice a P.length cap) := (HR1.out.fr F2.out id).cell 2
  have hbt := built_new p P.length mb
  have HXY : Hid (x ≠ y) := by have := HYY.out; show _ ≠ _; omega
  have HKP : Hid (∀ W5, Fr (fun k => k = y) w2 W5 → W5.cell? ⟨x, 1, none⟩ = some (.int .i64 (p : Int)) ∧ W5.cell? ⟨x, 2, none⟩ = some (.slice a P.length cap)) := fun W5 f => ⟨((HR1.out.fr F2.out id).fr f HXY.out).cell 1, ((HR1.out.fr F2.out id).fr f HXY.out).cell 2⟩
  have HKE : Hid (∀ W5, Fr Non w2 W5 → W5.cell? ⟨y, 0, none⟩ = some (.int .i64 0) ∧ W5.frozen? ⟨y, 0, none⟩ = false ∧ y < W5.heap.size) := fun W5 f => ⟨(HE1.out.fr (F2.out.trans f) id).cell 0, (HE1.out.fr (F2.out.trans f) id).frozen 0, (HE1.out.fr (F2.out.trans f) id).lt⟩
  go_region_held3 (fun w' => w'.cell? ⟨x, 1, none⟩ = some (.int .i64 (p : Int)) ∧ w'.cell? ⟨x, 2, none⟩ = some (.slice a P.length cap))
    (first | (exact ⟨d1, d2⟩) | (refine HKP.out _ ?_; repeat (first | exact F5.out.mono (fun _ _ e => (nomatch e)) | exact Fr.refl _ _ | (with_reducible refine frD ?_) | (with_reducible refine frA ?_) | (with_reducible refine frY ?_))))
    (first | (go_at_call 36; refine (Rd.new_any _).mono ?_; rintro e W5 ⟨rfl, g5, q5⟩; have F5 : Hid (Fr Non w2 W5) := (frD (Fr.refl _ _)).trans (fr_grown g5 (fun _ e => (nomatch e))); have Q5 := Lib.hid q5; have HQL := Lib.hid g5.size; clear g5 q5; have fy := (HKE.out _ F5.out).2.1; have cy := (HKE.out _ F5.out).1; have ly := (HKE.out _ F5.out).2.2))
  rw [new_cells]
  have HW6 : Hid (RowAt ((W5.setCell ⟨y, 0, none⟩ (.int .i64 0)).alloc (.cells (sA ⟨p, P.length, mb, fun _ => none, w2.heap.size, 0, -1⟩) 89)) W5.heap.size 89 (sA ⟨p, P.length, mb, fun _ => none, w2.heap.size, 0, -1⟩)) := by
    have := RowAt.new (W5.setCell ⟨y, 0, none⟩ (.int .i64 0)) 89 (sA ⟨p, P.length, mb, fun _ => none, w2.heap.size, 0, -1⟩)
    rw [show (W5.setCell ⟨y, 0, none⟩ (.int .i64 0)).heap.size = W5.heap.size from by simp] at this
    exact this
  have HF6 : Hid (Fr (fun k => k = y) W5 ((W5.setCell ⟨y, 0, none⟩ (.int .i64 0)).alloc (.cells (sA ⟨p, P.length, mb, fun _ => none, w2.heap.size, 0, -1⟩) 89))) := frA (frY (Fr.refl _ _))
  have e0 : ((W5.setCell ⟨y, 0, none⟩ (.int .i64 0)).alloc (.cells (sA ⟨p, P.length, mb, fun _ => none, w2.heap.size, 0, -1⟩) 89)).cell? ⟨y, 0, none⟩ = some (.int .i64 0) := by
    have := (((show RowAt W5 y _ _ from (HE1.out.fr (F2.out.trans F5.out) id)).set 0 (.int .i64 0)).fr (Fr.alloc Non _ (.cells (sA ⟨p, P.length, mb, fun _ => none, w2.heap.size, 0, -1⟩) 89)) id).cell 0
    exact this
  have e1 : ((W5.setCell ⟨y, 0, none⟩ (.int .i64 0)).alloc (.cells (sA ⟨p, P.length, mb, fun _ => none, w2.heap.size, 0, -1⟩) 89)).frozen? ⟨y, 0, none⟩ = false :=
    (((show RowAt W5 y _ _ from (HE1.out.fr (F2.out.trans F5.out) id)).set 0 (.int .i64 0)).fr (Fr.alloc Non _ (.cells (sA ⟨p, P.length, mb, fun _ => none, w2.heap.size, 0, -1⟩) 89)) id).frozen 0
  generalize (W5.setCell _ _).alloc _ = W6 at HW6 HF6 e0 e1 ⊢
  clear hbt fy cy ly d1 d2
  go_wp2
  refine leaves_cons (f := 33) (args := #[.pointer (some ⟨y, 0, none⟩)]) (by simp) (by simp [go_sem]) ?_
  refine (endNew ⟨y, 0, none⟩ 0 W6 e0 e1).mono ?_
  rintro e u' w'' ⟨rfl, rfl, rfl⟩
  have e2 : (W6.setCell ⟨y, 0, none⟩ (.int .i64 0)).cell? ⟨y, 0, none⟩ = some (.int .i64 0) := by simp [go_sem, e0]
  simp [Leaves, settle, results, Tryz.results10, go_sem, e2]
  have F7 : Fr (fun k => k = y) W5 (W6.setCell ⟨y, 0, none⟩ (.int .i64 0)) := frY HF6.out
  have g1 := HMB.out
  have g2 := F2.out.size
  have g3 := F5.out.size
  have g4 := HM.out.lt
  have g5 : w2.heap.size < W5.heap.size := by obtain ⟨q, h, _⟩ := Q5.out; exact (show RowAt W5 _ _ _ from h).lt
  have g6 := HXX.out
  have g7 := HYY.out
  have g8 : y < W1.heap.size := HE1.out.lt
  have g9 := HF1.out.size
  refine ⟨mb, w2.heap.size, ⟨by omega, by omega, by omega, by omega, by omega, by omega⟩, HW6.out.fr (frY (Fr.refl _ _)) (by show ¬ (_ = _); omega), (HM.out.fr F5.out id).fr F7 (by show ¬ (_ = _); omega), qp_fr Q5.out F7 (by show ¬ (w2.heap.size = _); omega), Fr.over (HF1.out.trans (F2.out.trans F5.out)) F7 (fun i e => .inr (by omega))⟩
end Go.Proofs.YtjaaljcdaamcjaaGreat
