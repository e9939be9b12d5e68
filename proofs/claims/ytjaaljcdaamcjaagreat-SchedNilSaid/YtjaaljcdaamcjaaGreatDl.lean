/- Package sched: candidates, and the three comparisons where nothing differs. -/
import Derived.Test.YtjaaljcdaamcjaaGreatDk
import Derived.Laws.Rows
namespace Go.Proofs.YtjaaljcdaamcjaaGreat
open Go.RowKit Go.Proofs.YtjaaljcdaamcjaaGreat.Pa
set_option linter.unusedVariables false

/-- A candidate's cells. -/
structure Cd where
  num : Nat
  last : Int
  msk : Int
  el : Bool
  pri : Int
  prt : Nat
def Cd.cells (c : Cd) : Array Value := #[.int .i64 (c.num : Int), .int .i64 c.last, .int .i64 c.msk, .bool c.el, .int .i64 c.pri, .int .i64 (c.prt : Int)]
def cd0 : Array Value := #[.int .i64 0, .int .i64 0, .int .i64 0, .bool false, .int .i64 0, .int .i64 0]
theorem cd_set (c : Cd) : (((((cd0.setIfInBounds 0 (.int .i64 (c.num : Int))).setIfInBounds 1 (.int .i64 c.last)).setIfInBounds 2 (.int .i64 c.msk)).setIfInBounds 3 (.bool c.el)).setIfInBounds 4 (.int .i64 c.pri)).setIfInBounds 5 (.int .i64 (c.prt : Int)) = c.cells := by
  simp only [cd0, Cd.cells, List.setIfInBounds_toArray, List.set_cons_zero, List.set_cons_succ]
theorem cd_size (c : Cd) : (Tryz.prog.info? 177).map (·.size) = some c.cells.size := by
  have h : (Tryz.prog.info? 177).map (·.size) = some 6 := by kernel_rfl
  exact h
theorem cd_one (c : Cd) : ∀ u ∈ c.cells.toList, u.oneCell' = true := by
  intro u hu
  simp only [Cd.cells, List.mem_cons, List.not_mem_nil, or_false] at hu
  rcases hu with rfl | rfl | rfl | rfl | rfl | rfl <;> rfl
section
variable {S : Nat} {s : ST} {C : CF} {T : Nat} {L : List Ch} {ls : Nat → List Nat} {mk : Nat → Nat} {en : Nat → Option En} {W W' : World}
set_option maxRecDepth 100000 in
set_option maxHeartbeats 2000000 in
theorem candidate_ok (h : SI S s C T L ls mk en W) (t b : Nat) (hb : s.th t = some b) {e : En} (he : en t = some e) (n k : Nat) (h0 : T ≤ n) (h1 : n ≤ 1099511627776) (hk : k < C.np) (hp : e.par.prt = k) (hc : e.par.cri = false) : Calls Tryz.prog 98 #[.pointer (some ⟨S, 0, none⟩), .pointer (some ⟨b, 0, none⟩), .int .i64 (n : Int)] W fun r w' => r = .returned (.agg (Cd.mk t e.last e.par.msk (hasBu C L n k) e.pri k).cells) ∧ SI S s C n L ls mk en w' ∧ Fr (fun j => j = s.mb) W w' := by
  have HS := Lib.hid h
  obtain ⟨x, hx1, hx2, hx3⟩ := h.ent t b hb
  rw [he] at hx1
  injection hx1 with hx1
  subst hx1
  have HX := Lib.hid hx3
  have HB := Lib.hid hb
  have HE := Lib.hid he
  have HN := Lib.hid hx2
  have HP := Lib.hid hp
  have HEL : Hid (∀ W2, SI S s C T L ls mk en W2 → Calls Tryz.prog 134 #[.pointer (some ⟨S, 0, none⟩), .pointer (some ⟨b, 0, none⟩), .int .i64 (n : Int)] W2 fun r w' => r = .returned (.bool (hasBu C L n k)) ∧ SI S s C n L ls mk en w' ∧ Fr (fun j => j = s.mb) W2 w') := fun W2 q => iselig_ok q t b hb he n k h0 h1 hk hp hc
  clear h hb he h0 h1 hk hp hc hx2 hx3
  generalize hasBu C L n k = v at HEL ⊢
  go_enter Tryz.func98, Tryz.ntmps98
  go_upto_region 1 with (fail)
  have HF1 : Hid (Fr Non W (W.alloc (.cells cd0 177))) := frA (Fr.refl _ _)
  have HY1 : Hid (RowAt (W.alloc (.cells cd0 177)) W.heap.size 177 cd0) := RowAt.new _ _ _
  unfold cd0 at HF1 HY1
  generalize W.alloc _ = W1 at HF1 HY1 ⊢
  obtain ⟨y, hy⟩ : ∃ y, W.heap.size = y := ⟨_, rfl⟩
  have HYY := Lib.hid hy
  rw [hy] at HY1 ⊢
  clear hy
  have HS1 := Lib.hid (HS.out.fr HF1.out (fun _ _ e => e))
  have HK : Hid (∀ W2, Fr (fun j => j = s.mb) W1 W2 → W2.cell? ⟨b, 0, none⟩ = some (.int .i64 (t : Int)) ∧ W2.cell? ⟨b, 3, none⟩ = some (.int .i64 e.last) ∧ W2.cell? ⟨b, 7, none⟩ = some (.int .i64 e.par.msk) ∧ W2.cell? ⟨b, 8, none⟩ = some (.int .i64 (k : Int))) := fun W2 f => by
    have q := (HX.out.fr HF1.out id).fr f (HS.out.nt t b HB.out).2.1
    refine ⟨?_, RowAt.cell q 3, RowAt.cell q 7, ?_⟩
    · have := RowAt.cell q 0; rw [this]; show some (Value.int .i64 (e.num : Int)) = _; rw [HN.out]
    · have := RowAt.cell q 8; rw [this]; show some (Value.int .i64 e.par.prt) = _; rw [HP.out]
  have HKY : Hid (∀ W2, Fr (fun j => j = s.mb) W1 W2 → RowAt W2 y 177 #[.int .i64 0, .int .i64 0, .int .i64 0, .bool false, .int .i64 0, .int .i64 0]) := fun W2 f => HY1.out.fr f (by have := HS.out.met.lt; have := HYY.out; show ¬ (y = s.mb); omega)
  have hyb : Hid (y ≠ b) := by have := HX.out.lt; have := HYY.out; show _ ≠ _; omega
  have HST : Hid (∀ (W5 : World) (i : Nat) (u : Value), (W5.cell? ⟨b, 0, none⟩ = some (.int .i64 (t : Int)) ∧ W5.cell? ⟨b, 3, none⟩ = some (.int .i64 e.last) ∧ W5.cell? ⟨b, 7, none⟩ = some (.int .i64 e.par.msk) ∧ W5.cell? ⟨b, 8, none⟩ = some (.int .i64 (k : Int))) → ((W5.setCell ⟨y, i, none⟩ u).cell? ⟨b, 0, none⟩ = some (.int .i64 (t : Int)) ∧ (W5.setCell ⟨y, i, none⟩ u).cell? ⟨b, 3, none⟩ = some (.int .i64 e.last) ∧ (W5.setCell ⟨y, i, none⟩ u).cell? ⟨b, 7, none⟩ = some (.int .i64 e.par.msk) ∧ (W5.setCell ⟨y, i, none⟩ u).cell? ⟨b, 8, none⟩ = some (.int .i64 (k : Int)))) := fun W5 i u q => by
    have e : ∀ j, (W5.setCell ⟨y, i, none⟩ u).cell? ⟨b, j, none⟩ = W5.cell? ⟨b, j, none⟩ := fun j => World.cell?_of_block (heap_setCell_other _ _ _ _ hyb.out.symm)
    simp only [e]
    exact q
  go_region_held3 (fun w' => w'.cell? ⟨b, 0, none⟩ = some (.int .i64 (t : Int)) ∧ w'.cell? ⟨b, 3, none⟩ = some (.int .i64 e.last) ∧ w'.cell? ⟨b, 7, none⟩ = some (.int .i64 e.par.msk) ∧ w'.cell? ⟨b, 8, none⟩ = some (.int .i64 (k : Int)))
    (first | (with_reducible exact HK.out _ F2.out) | (with_reducible exact HST.out _ _ _ (HST.out _ _ _ (HST.out _ _ _ (HST.out _ _ _ (HST.out _ _ _ (HST.out _ _ _ (HK.out _ F2.out))))))) | (exact HK.out _ (by first | exact Fr.refl _ _ | exact frD (Fr.refl _ _))) | go_keep)
    (first
      | (go_at_call 134; refine (HEL.out (World.drew W1) (HS1.out.fr (Fr.drew Non _) (fun _ _ e => e))).mono ?_; rintro r W2 ⟨rfl, hs2, f2⟩; have F2 : Hid (Fr (fun j => j = s.mb) W1 W2) := (frD (Fr.refl _ _)).trans f2; have HS2 := Lib.hid hs2; clear f2 hs2; have y0 := (HKY.out _ F2.out).cell 0; have y1 := (HKY.out _ F2.out).cell 1; have y2 := (HKY.out _ F2.out).cell 2; have y3 := (HKY.out _ F2.out).cell 3; have y4 := (HKY.out _ F2.out).cell 4; have y5 := (HKY.out _ F2.out).cell 5; have z0 := (HKY.out _ F2.out).frozen 0; have z1 := (HKY.out _ F2.out).frozen 1; have z2 := (HKY.out _ F2.out).frozen 2; have z3 := (HKY.out _ F2.out).frozen 3; have z4 := (HKY.out _ F2.out).frozen 4; have z5 := (HKY.out _ F2.out).frozen 5)
      | (go_at_call 135; refine (curpri_ok HS2.out t b HB.out HE.out _).mono ?_; rintro r W3 ⟨rfl, f3⟩; subst f3))
  have HR : Hid (RowAt ((((((W2.setCell ⟨y, 0, none⟩ (.int .i64 (t : Int))).setCell ⟨y, 1, none⟩ (.int .i64 e.last)).setCell ⟨y, 2, none⟩ (.int .i64 e.par.msk)).setCell ⟨y, 3, none⟩ (.bool v)).setCell ⟨y, 4, none⟩ (.int .i64 e.pri)).setCell ⟨y, 5, none⟩ (.int .i64 (k : Int))) y 177 (Cd.mk t e.last e.par.msk v e.pri k).cells) := by
    have := (((((RowAt.set (HKY.out _ F2.out) 0 (.int .i64 (t : Int))).set 1 (.int .i64 e.last)).set 2 (.int .i64 e.par.msk)).set 3 (.bool v)).set 4 (.int .i64 e.pri)).set 5 (.int .i64 (k : Int))
    have q := cd_set (Cd.mk t e.last e.par.msk v e.pri k)
    unfold cd0 at q
    simp only at q
    rw [q] at this
    exact this
  have HFY : Hid (Fr (fun k => k = y) W2 ((((((W2.setCell ⟨y, 0, none⟩ (.int .i64 (t : Int))).setCell ⟨y, 1, none⟩ (.int .i64 e.last)).setCell ⟨y, 2, none⟩ (.int .i64 e.par.msk)).setCell ⟨y, 3, none⟩ (.bool v)).setCell ⟨y, 4, none⟩ (.int .i64 e.pri)).setCell ⟨y, 5, none⟩ (.int .i64 (k : Int)))) := frY (frY (frY (frY (frY (frY (Fr.refl _ _))))))
  clear y0 y1 y2 y3 y4 y5 z0 z1 z2 z3 z4 z5
  generalize World.setCell (World.setCell (World.setCell (World.setCell (World.setCell (World.setCell W2 _ _) _ _) _ _) _ _) _ _) _ _ = W5 at HR HFY ⊢
  have hy3 : ∀ k, OW S s k → ¬ k = y := fun k hk e => by have := HS.out.own_lt hk; have := HYY.out; omega
  go_wp2
  refine bodyPost_ret (v := .agg (Cd.mk t e.last e.par.msk v e.pri k).cells) (results_cell_row rfl _ _ y 177 _ (0, 0) _ rfl HR.out Tryz.underlying177 rfl (cd_size _)) rfl ⟨rfl, ?_, ?_⟩
  · exact HS2.out.fr HFY.out hy3
  · exact Fr.over ((HF1.out.mono (fun _ _ e => (nomatch e))).trans F2.out) HFY.out (fun i e => .inr (by have := HYY.out; omega))
end
end Go.Proofs.YtjaaljcdaamcjaaGreat
