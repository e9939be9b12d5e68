/- Package sched: entries: refill, setParams (without a server), newEntry. -/
import Derived.Test.YtjaaljcdaamcjaaGreatDf
import Derived.WalkSmall
namespace Go.Proofs.YtjaaljcdaamcjaaGreat
open Go.RowKit Go.Proofs.YtjaaljcdaamcjaaGreat.Pa
set_option linter.unusedVariables false

def EAt (W : World) (b : Nat) (e : En) (srv : Option Nat) : Prop := RowAt W b 111 (eA e srv)
theorem EAt.fr {W W' : World} {S : Nat → Prop} {b : Nat} {e : En} {srv : Option Nat} (h : EAt W b e srv) (hg : Fr S W W') (hne : ¬ S b) : EAt W' b e srv := RowAt.fr h hg hne
theorem EAt.lt {W : World} {b : Nat} {e : En} {srv : Option Nat} (h : EAt W b e srv) : b < W.heap.size := RowAt.lt h
set_option maxRecDepth 100000 in
theorem refill_any {W : World} {b : Nat} {e : En} {srv : Option Nat} (h : EAt W b e srv) : Calls Tryz.prog 74 #[.pointer (some ⟨b, 0, none⟩)] W fun r w' => (∃ v, r = .returned v) ∧ EAt w' b { e with left := e.par.sli } srv ∧ Fr (fun k => k = b) W w' := by
  have HE := Lib.hid h
  have c6 : W.cell? ⟨b, 6, none⟩ = some (.int .i64 e.par.sli) := RowAt.cell h 6
  have c4 : W.cell? ⟨b, 4, none⟩ = some (.int .i64 e.left) := RowAt.cell h 4
  have f4 : W.frozen? ⟨b, 4, none⟩ = false := RowAt.frozen h 4
  clear h
  go_enter Tryz.func74, Tryz.ntmps74
  go_wp2
  go_end0
  exact ⟨⟨_, rfl⟩, RowAt.set HE.out 4 (.int .i64 e.par.sli), Fr.set _ _ _ _ rfl⟩
theorem eA_par (e : En) (srv : Option Nat) (p0 p1 p2 p3 : Int) (p4 : Bool) (p5 p6 p7 p8 : Int) : (((((((((eA e srv).setIfInBounds 5 (.int .i64 p0)).setIfInBounds 6 (.int .i64 p1)).setIfInBounds 7 (.int .i64 p2)).setIfInBounds 8 (.int .i64 p3)).setIfInBounds 9 (.bool p4)).setIfInBounds 10 (.int .i64 p5)).setIfInBounds 11 (.int .i64 p6)).setIfInBounds 12 (.int .i64 p7)).setIfInBounds 13 (.int .i64 p8) = eA { e with par := ⟨p0, p1, p2, p3, p4, p5, p6, p7, p8⟩ } srv := by
  simp only [eA, List.setIfInBounds_toArray, List.set_cons_zero, List.set_cons_succ]
theorem EAt.setPar {W1 : World} {b : Nat} {e : En} {srv : Option Nat} (h : EAt W1 b e srv) (p0 p1 p2 p3 : Int) (p4 : Bool) (p5 p6 p7 p8 : Int) : EAt (((((((((W1.setCell ⟨b, 5, none⟩ (.int .i64 p0)).setCell ⟨b, 6, none⟩ (.int .i64 p1)).setCell ⟨b, 7, none⟩ (.int .i64 p2)).setCell ⟨b, 8, none⟩ (.int .i64 p3)).setCell ⟨b, 9, none⟩ (.bool p4)).setCell ⟨b, 10, none⟩ (.int .i64 p5)).setCell ⟨b, 11, none⟩ (.int .i64 p6)).setCell ⟨b, 12, none⟩ (.int .i64 p7)).setCell ⟨b, 13, none⟩ (.int .i64 p8)) b { e with par := ⟨p0, p1, p2, p3, p4, p5, p6, p7, p8⟩ } srv ∧ Fr (fun k => k = b) W1 (((((((((W1.setCell ⟨b, 5, none⟩ (.int .i64 p0)).setCell ⟨b, 6, none⟩ (.int .i64 p1)).setCell ⟨b, 7, none⟩ (.int .i64 p2)).setCell ⟨b, 8, none⟩ (.int .i64 p3)).setCell ⟨b, 9, none⟩ (.bool p4)).setCell ⟨b, 10, none⟩ (.int .i64 p5)).setCell ⟨b, 11, none⟩ (.int .i64 p6)).setCell ⟨b, 12, none⟩ (.int .i64 p7)).setCell ⟨b, 13, none⟩ (.int .i64 p8)) := by
  constructor
  · have h1 := RowAt.set h 5 (.int .i64 p0)
    have h2 := RowAt.set h1 6 (.int .i64 p1)
    have h3 := RowAt.set h2 7 (.int .i64 p2)
    have h4 := RowAt.set h3 8 (.int .i64 p3)
    have h5 := RowAt.set h4 9 (.bool p4)
    have h6 := RowAt.set h5 10 (.int .i64 p5)
    have h7 := RowAt.set h6 11 (.int .i64 p6)
    have h8 := RowAt.set h7 12 (.int .i64 p7)
    have h9 := RowAt.set h8 13 (.int .i64 p8)
    rw [eA_par] at h9
    exact h9
  · exact frY (frY (frY (frY (frY (frY (frY (frY (frY (Fr.refl _ _)))))))))
set_option maxRecDepth 100000 in
set_option maxHeartbeats 2000000 in
theorem setparams_any {W : World} {b : Nat} {e : En} {srv : Option Nat} (h : EAt W b e srv) (p : PS) (hp : p.pol ≠ 2) : Calls Tryz.prog 117 #[.pointer (some ⟨b, 0, none⟩), .agg p.cells] W fun r w' => (∃ v, r = .returned v) ∧ EAt w' b { e with left := p.sli, par := p } none ∧ Fr (fun k => k = b) W w' := by
  have HE := Lib.hid h
  have hb := EAt.lt h
  have HB := Lib.hid hb
  clear h hb
  obtain ⟨p0, p1, p2, p3, p4, p5, p6, p7, p8⟩ := p
  have g0 : (p0 == 2) = false := by simpa using hp
  clear hp
  unfold PS.cells
  go_enter Tryz.func117, Tryz.ntmps117
  go_upto_region 1 with (fail)
  have HR1 : Hid (RowAt (W.alloc (.cells #[.int .i64 p0, .int .i64 p1, .int .i64 p2, .int .i64 p3, .bool p4, .int .i64 p5, .int .i64 p6, .int .i64 p7, .int .i64 p8] 41)) W.heap.size 41 #[.int .i64 p0, .int .i64 p1, .int .i64 p2, .int .i64 p3, .bool p4, .int .i64 p5, .int .i64 p6, .int .i64 p7, .int .i64 p8]) := RowAt.new _ _ _
  have HF1 : Hid (Fr Non W (W.alloc (.cells #[.int .i64 p0, .int .i64 p1, .int .i64 p2, .int .i64 p3, .bool p4, .int .i64 p5, .int .i64 p6, .int .i64 p7, .int .i64 p8] 41))) := frA (Fr.refl _ _)
  have HXB : Hid (W.heap.size ≠ b) := by have := HB.out; show _ ≠ _; omega
  generalize W.alloc _ = W1 at HR1 HF1 ⊢
  generalize W.heap.size = x at HR1 HXB ⊢
  have HE1 := Lib.hid (HE.out.fr HF1.out id)
  have r0 : W1.cell? ⟨x, 0, none⟩ = some (.int .i64 p0) := HR1.out.cell 0
  have r1 : W1.cell? ⟨x, 1, none⟩ = some (.int .i64 p1) := HR1.out.cell 1
  have r2 : W1.cell? ⟨x, 2, none⟩ = some (.int .i64 p2) := HR1.out.cell 2
  have r3 : W1.cell? ⟨x, 3, none⟩ = some (.int .i64 p3) := HR1.out.cell 3
  have r4 : W1.cell? ⟨x, 4, none⟩ = some (.bool p4) := HR1.out.cell 4
  have r5 : W1.cell? ⟨x, 5, none⟩ = some (.int .i64 p5) := HR1.out.cell 5
  have r6 : W1.cell? ⟨x, 6, none⟩ = some (.int .i64 p6) := HR1.out.cell 6
  have r7 : W1.cell? ⟨x, 7, none⟩ = some (.int .i64 p7) := HR1.out.cell 7
  have r8 : W1.cell? ⟨x, 8, none⟩ = some (.int .i64 p8) := HR1.out.cell 8
  have c5 : W1.cell? ⟨b, 5, none⟩ = some (.int .i64 e.par.pol) := RowAt.cell HE1.out 5
  have c6 : W1.cell? ⟨b, 6, none⟩ = some (.int .i64 e.par.sli) := RowAt.cell HE1.out 6
  have c7 : W1.cell? ⟨b, 7, none⟩ = some (.int .i64 e.par.msk) := RowAt.cell HE1.out 7
  have c8 : W1.cell? ⟨b, 8, none⟩ = some (.int .i64 e.par.prt) := RowAt.cell HE1.out 8
  have c9 : W1.cell? ⟨b, 9, none⟩ = some (.bool e.par.cri) := RowAt.cell HE1.out 9
  have c10 : W1.cell? ⟨b, 10, none⟩ = some (.int .i64 e.par.sb) := RowAt.cell HE1.out 10
  have c11 : W1.cell? ⟨b, 11, none⟩ = some (.int .i64 e.par.sp) := RowAt.cell HE1.out 11
  have c12 : W1.cell? ⟨b, 12, none⟩ = some (.int .i64 e.par.sn) := RowAt.cell HE1.out 12
  have c13 : W1.cell? ⟨b, 13, none⟩ = some (.int .i64 e.par.sl) := RowAt.cell HE1.out 13
  have f5 : W1.frozen? ⟨b, 5, none⟩ = false := RowAt.frozen HE1.out 5
  have f6 : W1.frozen? ⟨b, 6, none⟩ = false := RowAt.frozen HE1.out 6
  have f7 : W1.frozen? ⟨b, 7, none⟩ = false := RowAt.frozen HE1.out 7
  have f8 : W1.frozen? ⟨b, 8, none⟩ = false := RowAt.frozen HE1.out 8
  have f9 : W1.frozen? ⟨b, 9, none⟩ = false := RowAt.frozen HE1.out 9
  have f10 : W1.frozen? ⟨b, 10, none⟩ = false := RowAt.frozen HE1.out 10
  have f11 : W1.frozen? ⟨b, 11, none⟩ = false := RowAt.frozen HE1.out 11
  have f12 : W1.frozen? ⟨b, 12, none⟩ = false := RowAt.frozen HE1.out 12
  have f13 : W1.frozen? ⟨b, 13, none⟩ = false := RowAt.frozen HE1.out 13
  go_upto_region 2 with (fail)
  have HE2 := Lib.hid (EAt.setPar HE1.out p0 p1 p2 p3 p4 p5 p6 p7 p8)
  clear c5 c6 c7 c8 c9 c10 c11 c12 c13 f5 f6 f7 f8 f9 f10 f11 f12 f13 r0 r1 r2 r3 r4 r5 r6 r7 r8
  generalize (((((((((W1.setCell ⟨b, 5, none⟩ (.int .i64 p0)).setCell ⟨b, 6, none⟩ (.int .i64 p1)).setCell ⟨b, 7, none⟩ (.int .i64 p2)).setCell ⟨b, 8, none⟩ (.int .i64 p3)).setCell ⟨b, 9, none⟩ (.bool p4)).setCell ⟨b, 10, none⟩ (.int .i64 p5)).setCell ⟨b, 11, none⟩ (.int .i64 p6)).setCell ⟨b, 12, none⟩ (.int .i64 p7)).setCell ⟨b, 13, none⟩ (.int .i64 p8)) = W2 at HE2 ⊢
  go_upto_region 3 with (go_at_call 74; refine (refill_any HE2.out.1).mono ?_; rintro r W3 ⟨⟨v, rfl⟩, he, f3⟩; have HE3 := Lib.hid he; have HF3 := Lib.hid (HE2.out.2.trans f3); clear he f3)
  have r0 : W3.cell? ⟨x, 0, none⟩ = some (.int .i64 p0) := (HR1.out.fr HF3.out HXB.out).cell 0
  have c14 : W3.cell? ⟨b, 14, none⟩ = some (ptrV srv) := RowAt.cell HE3.out 14
  have f14 : W3.frozen? ⟨b, 14, none⟩ = false := RowAt.frozen HE3.out 14
  have xb : ¬ x = b := HXB.out
  go_wp2
  go_end0
  exact ⟨⟨_, rfl⟩, (show RowAt W3 b _ _ from HE3.out).set 14 (ptrV none), (HF1.out.mono (fun _ _ e => (nomatch e))).trans (HF3.out.trans (Fr.set _ _ _ _ rfl))⟩
set_option maxRecDepth 100000 in
theorem newentry_any (W : World) (n : Nat) (pri : Int) (p : PS) (hp : p.pol ≠ 2) : Calls Tryz.prog 71 #[.int .i64 (n : Int), .int .i64 pri, .agg p.cells] W fun r w' => ∃ b, r = .returned (.pointer (some ⟨b, 0, none⟩)) ∧ W.heap.size ≤ b ∧ EAt w' b ⟨n, pri, false, -1, p.sli, p⟩ none ∧ Fr Non W w' := by
  have HP := Lib.hid hp
  clear hp
  obtain ⟨p0, p1, p2, p3, p4, p5, p6, p7, p8⟩ := p
  unfold PS.cells
  go_enter Tryz.func71, Tryz.ntmps71
  go_upto_region 2 with (fail)
  have HE1 : Hid (EAt ((W.alloc (.cells #[.int .i64 p0, .int .i64 p1, .int .i64 p2, .int .i64 p3, .bool p4, .int .i64 p5, .int .i64 p6, .int .i64 p7, .int .i64 p8] 41)).alloc (.cells #[.int .i64 (n : Int), .int .i64 pri, .bool false, .int .i64 (-1), .int .i64 0, .int .i64 0, .int .i64 0, .int .i64 0, .int .i64 0, .bool false, .int .i64 0, .int .i64 0, .int .i64 0, .int .i64 0, .pointer none] 111)) (W.heap.size + 1) ⟨n, pri, false, -1, 0, ⟨0, 0, 0, 0, false, 0, 0, 0, 0⟩⟩ none) := by
    have := RowAt.new (W.alloc (.cells #[.int .i64 p0, .int .i64 p1, .int .i64 p2, .int .i64 p3, .bool p4, .int .i64 p5, .int .i64 p6, .int .i64 p7, .int .i64 p8] 41)) 111 #[.int .i64 (n : Int), .int .i64 pri, .bool false, .int .i64 (-1), .int .i64 0, .int .i64 0, .int .i64 0, .int .i64 0, .int .i64 0, .bool false, .int .i64 0, .int .i64 0, .int .i64 0, .int .i64 0, .pointer none]
    rw [show (W.alloc (.cells #[.int .i64 p0, .int .i64 p1, .int .i64 p2, .int .i64 p3, .bool p4, .int .i64 p5, .int .i64 p6, .int .i64 p7, .int .i64 p8] 41)).heap.size = W.heap.size + 1 from by simp] at this
    exact this
  have HR1 : Hid (RowAt ((W.alloc (.cells #[.int .i64 p0, .int .i64 p1, .int .i64 p2, .int .i64 p3, .bool p4, .int .i64 p5, .int .i64 p6, .int .i64 p7, .int .i64 p8] 41)).alloc (.cells #[.int .i64 (n : Int), .int .i64 pri, .bool false, .int .i64 (-1), .int .i64 0, .int .i64 0, .int .i64 0, .int .i64 0, .int .i64 0, .bool false, .int .i64 0, .int .i64 0, .int .i64 0, .int .i64 0, .pointer none] 111)) W.heap.size 41 #[.int .i64 p0, .int .i64 p1, .int .i64 p2, .int .i64 p3, .bool p4, .int .i64 p5, .int .i64 p6, .int .i64 p7, .int .i64 p8]) := (RowAt.new W _ _).fr (Fr.alloc Non _ _) id
  have HF1 : Hid (Fr Non W ((W.alloc (.cells #[.int .i64 p0, .int .i64 p1, .int .i64 p2, .int .i64 p3, .bool p4, .int .i64 p5, .int .i64 p6, .int .i64 p7, .int .i64 p8] 41)).alloc (.cells #[.int .i64 (n : Int), .int .i64 pri, .bool false, .int .i64 (-1), .int .i64 0, .int .i64 0, .int .i64 0, .int .i64 0, .int .i64 0, .bool false, .int .i64 0, .int .i64 0, .int .i64 0, .int .i64 0, .pointer none] 111))) := frA (frA (Fr.refl _ _))
  obtain ⟨x, hx⟩ : ∃ x, W.heap.size = x := ⟨_, rfl⟩
  have HX := Lib.hid hx
  rw [hx] at HE1 HR1 ⊢
  clear hx
  generalize World.alloc (World.alloc W _) _ = W1 at HE1 HR1 HF1 ⊢
  have r0 : W1.cell? ⟨x, 0, none⟩ = some (.int .i64 p0) := HR1.out.cell 0
  have r1 : W1.cell? ⟨x, 1, none⟩ = some (.int .i64 p1) := HR1.out.cell 1
  have r2 : W1.cell? ⟨x, 2, none⟩ = some (.int .i64 p2) := HR1.out.cell 2
  have r3 : W1.cell? ⟨x, 3, none⟩ = some (.int .i64 p3) := HR1.out.cell 3
  have r4 : W1.cell? ⟨x, 4, none⟩ = some (.bool p4) := HR1.out.cell 4
  have r5 : W1.cell? ⟨x, 5, none⟩ = some (.int .i64 p5) := HR1.out.cell 5
  have r6 : W1.cell? ⟨x, 6, none⟩ = some (.int .i64 p6) := HR1.out.cell 6
  have r7 : W1.cell? ⟨x, 7, none⟩ = some (.int .i64 p7) := HR1.out.cell 7
  have r8 : W1.cell? ⟨x, 8, none⟩ = some (.int .i64 p8) := HR1.out.cell 8
  go_wp2_with (go_at_call 117; refine (setparams_any HE1.out ⟨p0, p1, p2, p3, p4, p5, p6, p7, p8⟩ HP.out).mono ?_; rintro r W3 ⟨⟨v, rfl⟩, he, f3⟩; have HE3 := Lib.hid he; have HF3 := Lib.hid f3; clear he f3)
  go_ret
  exact ⟨x + 1, rfl, by have := HX.out; omega, HE3.out, Fr.over HF1.out HF3.out (fun i e => .inr (by have := HX.out; omega))⟩
end Go.Proofs.YtjaaljcdaamcjaaGreat
