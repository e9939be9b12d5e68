/- Package sched: the three comparisons where nothing differs. -/
import Derived.Test.YtjaaljcdaamcjaaGreatDl
namespace Go.Proofs.YtjaaljcdaamcjaaGreat
open Go.RowKit Go.Proofs.YtjaaljcdaamcjaaGreat.Pa
set_option linter.unusedVariables false

set_option maxRecDepth 100000 in
theorem byelig_eq (a b : Cd) (h : a.el = b.el) (w : World) : Calls Tryz.prog 100 #[.agg a.cells, .agg b.cells] w fun e w' => e = .returned (.int .i64 0) ∧ Fr Non w w' := by
  obtain ⟨a1, a2, a3, a4, a5, a6⟩ := a
  obtain ⟨b1, b2, b3, b4, b5, b6⟩ := b
  simp only at h
  subst h
  unfold Cd.cells
  cases a4
  all_goals
    go_enter Tryz.func100, Tryz.ntmps100
    go_wp2
    go_ret
    exact ⟨rfl, frA (frA (Fr.refl _ _))⟩
set_option maxRecDepth 100000 in
theorem cmp_same (x : Int) (w : World) : Calls Tryz.prog 138 #[.int .i64 x, .int .i64 x] w fun e w' => e = .returned (.int .i64 0) ∧ w = w' := by
  go_enter Tryz.func138, Tryz.ntmps138
  go_wp2
  go_ret
  exact ⟨rfl, rfl⟩
set_option maxRecDepth 100000 in
theorem bypri_eq (a b : Cd) (h : a.pri = b.pri) (w : World) : Calls Tryz.prog 101 #[.agg a.cells, .agg b.cells] w fun e w' => e = .returned (.int .i64 0) ∧ Fr Non w w' := by
  obtain ⟨a1, a2, a3, a4, a5, a6⟩ := a
  obtain ⟨b1, b2, b3, b4, b5, b6⟩ := b
  simp only at h
  subst h
  unfold Cd.cells
  go_enter Tryz.func101, Tryz.ntmps101
  go_wp2_with (go_at_call 138; refine (cmp_same _ _).mono ?_; rintro e w2 ⟨rfl, f2⟩; subst f2)
  go_ret
  exact ⟨rfl, frA (frA (Fr.refl _ _))⟩
section
variable {S : Nat} {s : ST} {C : CF} {T : Nat} {L : List Ch} {ls : Nat → List Nat} {mk : Nat → Nat} {en : Nat → Option En} {W W' : World}
theorem er2_zero {n k : Nat} (h0 : T ≤ n) (h1 : n ≤ 1099511627776) (hk : k < C.np) : erV C T n [(k : Int), (k : Int)] = 0 := by
  unfold erV
  rw [chk_ok]
  refine ⟨⟨by omega, by omega⟩, ?_, by omega⟩
  simp [hasB]
  omega
theorem comp_same {B : Nat} (h : MS B C T L W) (hC : BudOk C) (n k : Nat) (h0 : T ≤ n) (h1 : n ≤ 1099511627776) (hk : k < C.np) : Calls Tryz.prog 140 #[.pointer (some ⟨B, 0, none⟩), .int .i64 (n : Int), .int .i64 (k : Int), .int .i64 (k : Int)] W fun e w' => e = .returned (.tuple #[.int .i64 0, .int .i64 0]) ∧ MS B C n L w' ∧ Fr (fun j => j = B) W w' := by
  refine (comp_any h hC n k k).mono ?_
  rintro e w' ⟨rfl, hm, hf⟩
  rw [show tiV C T (n : Int) [(k : Int), (k : Int)] = n from by unfold tiV; rw [if_pos (er2_zero h0 h1 hk)]; omega] at hm
  refine ⟨?_, hm, hf⟩
  unfold coV
  rw [if_pos (er2_zero h0 h1 hk)]
  simp [cmpV, cmp3]
set_option maxRecDepth 100000 in
set_option maxHeartbeats 2000000 in
theorem byusage_eq (h : SI S s C T L ls mk en W) (hC : BudOk C) (a b : Cd) (n k : Nat) (h0 : T ≤ n) (h1 : n ≤ 1099511627776) (hk : k < C.np) (ha : a.prt = k) (hb : b.prt = k) : Calls Tryz.prog 103 #[.pointer (some ⟨S, 0, none⟩), .agg a.cells, .agg b.cells, .int .i64 (n : Int)] W fun e w' => e = .returned (.int .i64 0) ∧ SI S s C n L ls mk en w' ∧ Fr (fun j => j = s.mb) W w' := by
  obtain ⟨a1, a2, a3, a4, a5, a6⟩ := a
  obtain ⟨b1, b2, b3, b4, b5, b6⟩ := b
  simp only at ha hb
  subst ha hb
  have HS := Lib.hid h
  have HCO : Hid (∀ W2, MS s.mb C T L W2 → Calls Tryz.prog 140 #[.pointer (some ⟨s.mb, 0, none⟩), .int .i64 (n : Int), .int .i64 (b6 : Int), .int .i64 (b6 : Int)] W2 fun e w' => e = .returned (.tuple #[.int .i64 0, .int .i64 0]) ∧ MS s.mb C n L w' ∧ Fr (fun j => j = s.mb) W2 w') := fun W2 q => comp_same q hC n b6 h0 h1 hk
  clear h hC h0 h1 hk
  unfold Cd.cells
  go_enter Tryz.func103, Tryz.ntmps103
  go_upto_region 1 with (fail)
  have HF1 : Hid (Fr Non W ((W.alloc (.cells #[.int .i64 (a1 : Int), .int .i64 a2, .int .i64 a3, .bool a4, .int .i64 a5, .int .i64 (b6 : Int)] 177)).alloc (.cells #[.int .i64 (b1 : Int), .int .i64 b2, .int .i64 b3, .bool b4, .int .i64 b5, .int .i64 (b6 : Int)] 177))) := frA (frA (Fr.refl _ _))
  have HY1 : Hid (RowAt ((W.alloc (.cells #[.int .i64 (a1 : Int), .int .i64 a2, .int .i64 a3, .bool a4, .int .i64 a5, .int .i64 (b6 : Int)] 177)).alloc (.cells #[.int .i64 (b1 : Int), .int .i64 b2, .int .i64 b3, .bool b4, .int .i64 b5, .int .i64 (b6 : Int)] 177)) (W.heap.size + 1) 177 #[.int .i64 (b1 : Int), .int .i64 b2, .int .i64 b3, .bool b4, .int .i64 b5, .int .i64 (b6 : Int)]) := by
    have := RowAt.new (W.alloc (.cells #[.int .i64 (a1 : Int), .int .i64 a2, .int .i64 a3, .bool a4, .int .i64 a5, .int .i64 (b6 : Int)] 177)) 177 #[.int .i64 (b1 : Int), .int .i64 b2, .int .i64 b3, .bool b4, .int .i64 b5, .int .i64 (b6 : Int)]
    rw [show (W.alloc (.cells #[.int .i64 (a1 : Int), .int .i64 a2, .int .i64 a3, .bool a4, .int .i64 a5, .int .i64 (b6 : Int)] 177)).heap.size = W.heap.size + 1 from by simp] at this
    exact this
  have HX1 : Hid (RowAt ((W.alloc (.cells #[.int .i64 (a1 : Int), .int .i64 a2, .int .i64 a3, .bool a4, .int .i64 a5, .int .i64 (b6 : Int)] 177)).alloc (.cells #[.int .i64 (b1 : Int), .int .i64 b2, .int .i64 b3, .bool b4, .int .i64 b5, .int .i64 (b6 : Int)] 177)) W.heap.size 177 #[.int .i64 (a1 : Int), .int .i64 a2, .int .i64 a3, .bool a4, .int .i64 a5, .int .i64 (b6 : Int)]) := (RowAt.new W _ _).fr (Fr.alloc Non _ _) id
  generalize World.alloc (World.alloc W _) _ = W1 at HF1 HY1 HX1 ⊢
  have HS1 := Lib.hid (HS.out.fr HF1.out (fun _ _ e => e))
  have HXM : Hid (W.heap.size ≠ s.mb ∧ W.heap.size + 1 ≠ s.mb) := by have := HS.out.met.lt; exact ⟨by omega, by omega⟩
  generalize W.heap.size + 1 = y at HY1 HXM ⊢
  generalize W.heap.size = x at HX1 HXM ⊢
  have c2 := HS1.out.row.mb
  have cx : W1.cell? ⟨x, 5, none⟩ = some (.int .i64 (b6 : Int)) := HX1.out.cell 5
  have cy : W1.cell? ⟨y, 5, none⟩ = some (.int .i64 (b6 : Int)) := HY1.out.cell 5
  have HK : Hid (∀ W2, Fr (fun j => j = s.mb) W1 W2 → W2.cell? ⟨S, 2, none⟩ = some (.pointer (some ⟨s.mb, 0, none⟩)) ∧ W2.cell? ⟨x, 5, none⟩ = some (.int .i64 (b6 : Int)) ∧ W2.cell? ⟨y, 5, none⟩ = some (.int .i64 (b6 : Int))) := fun W2 f => ⟨(HS1.out.row.fr f HS1.out.ne.1).mb, (HX1.out.fr f HXM.out.1).cell 5, (HY1.out.fr f HXM.out.2).cell 5⟩
  go_region_held3 (fun w' => w'.cell? ⟨S, 2, none⟩ = some (.pointer (some ⟨s.mb, 0, none⟩)) ∧ w'.cell? ⟨x, 5, none⟩ = some (.int .i64 (b6 : Int)) ∧ w'.cell? ⟨y, 5, none⟩ = some (.int .i64 (b6 : Int)))
    (first | (exact ⟨c2, cx, cy⟩) | (exact HK.out _ F2.out) | go_keep)
    (first
      | (go_at_call 140; refine (HCO.out (World.drew W1) HS1.out.met).mono ?_; rintro r W2 ⟨rfl, hm2, f2⟩; have F2 : Hid (Fr (fun j => j = s.mb) W1 W2) := (frD (Fr.refl _ _)).trans f2; have HM2 := Lib.hid hm2; clear f2 hm2)
      | (go_at_call 139; refine (valI_ok _ _).mono ?_; rintro r W3 ⟨rfl, f3⟩; subst f3))
  go_wp2
  go_ret
  exact ⟨rfl, HS1.out.time F2.out HM2.out, (HF1.out.mono (fun _ _ e => (nomatch e))).trans F2.out⟩
end
end Go.Proofs.YtjaaljcdaamcjaaGreat
