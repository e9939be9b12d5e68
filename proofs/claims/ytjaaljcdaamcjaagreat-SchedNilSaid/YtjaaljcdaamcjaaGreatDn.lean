/- Package sched: the comparison of the ranking, where nothing differs. -/
import Derived.Test.YtjaaljcdaamcjaaGreatDm
namespace Go.Proofs.YtjaaljcdaamcjaaGreat
open Go.RowKit Go.Proofs.YtjaaljcdaamcjaaGreat.Pa
set_option linter.unusedVariables false

/-- What the comparison reads: the scheduler, the time, the three comparisons. -/
structure CX (S : Nat) (s : ST) (C : CF) (n : Nat) (L : List Ch) (ls : Nat → List Nat) (mk : Nat → Nat) (en : Nat → Option En) (xs xn g cb : Nat) (T : Nat) (W : World) : Prop where
  si : SI S s C T L ls mk en W
  tn : T ≤ n
  bs : RowAt W xs 27 #[.pointer (some ⟨S, 0, none⟩)]
  bn : RowAt W xn 2 #[.int .i64 (n : Int)]
  gr : RowAt W g 180 #[.func (.func 100) #[] #[], .func (.func 101) #[] #[], .func (.func 102) #[] #[.pointer (some ⟨xs, 0, none⟩), .pointer (some ⟨xn, 0, none⟩)]]
  cr : RowAt W cb 210 #[.slice (some ⟨g, 0, none⟩) 3 3]
  ne : xs ≠ s.mb ∧ xn ≠ s.mb ∧ g ≠ s.mb ∧ cb ≠ s.mb
  bu : BudOk C
  tm : n ≤ 1099511627776
section
variable {S : Nat} {s : ST} {C : CF} {n T : Nat} {L : List Ch} {ls : Nat → List Nat} {mk : Nat → Nat} {en : Nat → Option En} {xs xn g cb : Nat} {W W' : World}
theorem CX.fr (h : CX S s C n L ls mk en xs xn g cb T W) (hf : Fr Non W W') : CX S s C n L ls mk en xs xn g cb T W' :=
  ⟨h.si.fr hf (fun _ _ e => e), h.tn, h.bs.fr hf id, h.bn.fr hf id, h.gr.fr hf id, h.cr.fr hf id, h.ne, h.bu, h.tm⟩
theorem CX.mb (h : CX S s C n L ls mk en xs xn g cb T W) (hf : Fr (fun k => k = s.mb) W W') (hs : SI S s C n L ls mk en W') : CX S s C n L ls mk en xs xn g cb n W' :=
  ⟨hs, Nat.le_refl _, h.bs.fr hf h.ne.1, h.bn.fr hf h.ne.2.1, h.gr.fr hf h.ne.2.2.1, h.cr.fr hf h.ne.2.2.2, h.ne, h.bu, h.tm⟩
set_option maxRecDepth 100000 in
set_option maxHeartbeats 2000000 in
theorem rankcl_eq (h : CX S s C n L ls mk en xs xn g cb T W) (a b : Cd) (k : Nat) (hk : k < C.np) (ha : a.prt = k) (hb : b.prt = k) : Calls Tryz.prog 102 #[.agg a.cells, .agg b.cells, .pointer (some ⟨xs, 0, none⟩), .pointer (some ⟨xn, 0, none⟩)] W fun e w' => e = .returned (.int .i64 0) ∧ CX S s C n L ls mk en xs xn g cb n w' ∧ Fr (fun j => j = s.mb) W w' := by
  have HC := Lib.hid h
  have HU : Hid (∀ W2, SI S s C T L ls mk en W2 → Calls Tryz.prog 103 #[.pointer (some ⟨S, 0, none⟩), .agg a.cells, .agg b.cells, .int .i64 (n : Int)] W2 fun e w' => e = .returned (.int .i64 0) ∧ SI S s C n L ls mk en w' ∧ Fr (fun j => j = s.mb) W2 w') := fun W2 q => byusage_eq q h.bu a b n k h.tn h.tm hk ha hb
  clear h ha hb hk
  obtain ⟨a1, a2, a3, a4, a5, a6⟩ := a
  obtain ⟨b1, b2, b3, b4, b5, b6⟩ := b
  unfold Cd.cells at HU ⊢
  go_enter Tryz.func102, Tryz.ntmps102
  go_upto_region 1 with (fail)
  have HF1 : Hid (Fr Non W ((W.alloc (.cells #[.int .i64 (a1 : Int), .int .i64 a2, .int .i64 a3, .bool a4, .int .i64 a5, .int .i64 (a6 : Int)] 177)).alloc (.cells #[.int .i64 (b1 : Int), .int .i64 b2, .int .i64 b3, .bool b4, .int .i64 b5, .int .i64 (b6 : Int)] 177))) := frA (frA (Fr.refl _ _))
  have HY1 : Hid (RowAt ((W.alloc (.cells #[.int .i64 (a1 : Int), .int .i64 a2, .int .i64 a3, .bool a4, .int .i64 a5, .int .i64 (a6 : Int)] 177)).alloc (.cells #[.int .i64 (b1 : Int), .int .i64 b2, .int .i64 b3, .bool b4, .int .i64 b5, .int .i64 (b6 : Int)] 177)) (W.heap.size + 1) 177 #[.int .i64 (b1 : Int), .int .i64 b2, .int .i64 b3, .bool b4, .int .i64 b5, .int .i64 (b6 : Int)]) := by
    have := RowAt.new (W.alloc (.cells #[.int .i64 (a1 : Int), .int .i64 a2, .int .i64 a3, .bool a4, .int .i64 a5, .int .i64 (a6 : Int)] 177)) 177 #[.int .i64 (b1 : Int), .int .i64 b2, .int .i64 b3, .bool b4, .int .i64 b5, .int .i64 (b6 : Int)]
    rw [show (W.alloc (.cells #[.int .i64 (a1 : Int), .int .i64 a2, .int .i64 a3, .bool a4, .int .i64 a5, .int .i64 (a6 : Int)] 177)).heap.size = W.heap.size + 1 from by simp] at this
    exact this
  have HX1 : Hid (RowAt ((W.alloc (.cells #[.int .i64 (a1 : Int), .int .i64 a2, .int .i64 a3, .bool a4, .int .i64 a5, .int .i64 (a6 : Int)] 177)).alloc (.cells #[.int .i64 (b1 : Int), .int .i64 b2, .int .i64 b3, .bool b4, .int .i64 b5, .int .i64 (b6 : Int)] 177)) W.heap.size 177 #[.int .i64 (a1 : Int), .int .i64 a2, .int .i64 a3, .bool a4, .int .i64 a5, .int .i64 (a6 : Int)]) := (RowAt.new W _ _).fr (Fr.alloc Non _ _) id
  generalize World.alloc (World.alloc W _) _ = W1 at HF1 HY1 HX1 ⊢
  have HC1 := Lib.hid (HC.out.fr HF1.out)
  have HXM : Hid (W.heap.size ≠ s.mb ∧ W.heap.size + 1 ≠ s.mb) := by have := HC.out.si.met.lt; exact ⟨by omega, by omega⟩
  generalize W.heap.size + 1 = y at HY1 HXM ⊢
  generalize W.heap.size = x at HX1 HXM ⊢
  have v0 : W1.cell? ⟨xs, 0, none⟩ = some (.pointer (some ⟨S, 0, none⟩)) := HC1.out.bs.cell 0
  have v1 : W1.cell? ⟨xn, 0, none⟩ = some (.int .i64 (n : Int)) := HC1.out.bn.cell 0
  have u0 : W1.cell? ⟨x, 0, none⟩ = some (.int .i64 (a1 : Int)) := HX1.out.cell 0
  have u1 : W1.cell? ⟨x, 1, none⟩ = some (.int .i64 a2) := HX1.out.cell 1
  have u2 : W1.cell? ⟨x, 2, none⟩ = some (.int .i64 a3) := HX1.out.cell 2
  have u3 : W1.cell? ⟨x, 3, none⟩ = some (.bool a4) := HX1.out.cell 3
  have u4 : W1.cell? ⟨x, 4, none⟩ = some (.int .i64 a5) := HX1.out.cell 4
  have u5 : W1.cell? ⟨x, 5, none⟩ = some (.int .i64 (a6 : Int)) := HX1.out.cell 5
  have u6 : W1.cell? ⟨y, 0, none⟩ = some (.int .i64 (b1 : Int)) := HY1.out.cell 0
  have u7 : W1.cell? ⟨y, 1, none⟩ = some (.int .i64 b2) := HY1.out.cell 1
  have u8 : W1.cell? ⟨y, 2, none⟩ = some (.int .i64 b3) := HY1.out.cell 2
  have u9 : W1.cell? ⟨y, 3, none⟩ = some (.bool b4) := HY1.out.cell 3
  have u10 : W1.cell? ⟨y, 4, none⟩ = some (.int .i64 b5) := HY1.out.cell 4
  have u11 : W1.cell? ⟨y, 5, none⟩ = some (.int .i64 (b6 : Int)) := HY1.out.cell 5
  go_wp2_with (go_at_call 103; refine (HU.out _ HC1.out.si).mono ?_; rintro r W2 ⟨rfl, hs2, f2⟩; have HS2 := Lib.hid hs2; have F2 := Lib.hid f2; clear f2 hs2)
  go_ret
  exact ⟨rfl, HC1.out.mb F2.out HS2.out, (HF1.out.mono (fun _ _ e => (nomatch e))).trans F2.out⟩
/-- Two candidates between which nothing decides. -/
def Flat (k : Nat) (a b : Cd) : Prop := a.el = b.el ∧ a.pri = b.pri ∧ a.prt = k ∧ b.prt = k
set_option maxRecDepth 100000 in
set_option maxHeartbeats 4000000 in
theorem sortcl_eq (h : CX S s C n L ls mk en xs xn g cb T W) (a b : Cd) (k : Nat) (hk : k < C.np) (hab : Flat k a b) : Calls Tryz.prog 137 #[.agg a.cells, .agg b.cells, .pointer (some ⟨cb, 0, none⟩)] W fun e w' => e = .returned (.int .i64 0) ∧ CX S s C n L ls mk en xs xn g cb n w' ∧ Fr (fun j => j = s.mb) W w' := by
  have HC := Lib.hid h
  have HE := Lib.hid (byelig_eq a b hab.1)
  have HP := Lib.hid (bypri_eq a b hab.2.1)
  have HU : Hid (∀ W2, CX S s C n L ls mk en xs xn g cb T W2 → Calls Tryz.prog 102 #[.agg a.cells, .agg b.cells, .pointer (some ⟨xs, 0, none⟩), .pointer (some ⟨xn, 0, none⟩)] W2 fun e w' => e = .returned (.int .i64 0) ∧ CX S s C n L ls mk en xs xn g cb n w' ∧ Fr (fun j => j = s.mb) W2 w') := fun W2 q => rankcl_eq q a b k hk hab.2.2.1 hab.2.2.2
  clear h hab hk
  obtain ⟨a1, a2, a3, a4, a5, a6⟩ := a
  obtain ⟨b1, b2, b3, b4, b5, b6⟩ := b
  unfold Cd.cells at HE HP HU ⊢
  go_enter Tryz.func137, Tryz.ntmps137
  go_upto_region 1 with (fail)
  have HF1 : Hid (Fr Non W ((W.alloc (.cells #[.int .i64 (a1 : Int), .int .i64 a2, .int .i64 a3, .bool a4, .int .i64 a5, .int .i64 (a6 : Int)] 177)).alloc (.cells #[.int .i64 (b1 : Int), .int .i64 b2, .int .i64 b3, .bool b4, .int .i64 b5, .int .i64 (b6 : Int)] 177))) := frA (frA (Fr.refl _ _))
  have HY1 : Hid (RowAt ((W.alloc (.cells #[.int .i64 (a1 : Int), .int .i64 a2, .int .i64 a3, .bool a4, .int .i64 a5, .int .i64 (a6 : Int)] 177)).alloc (.cells #[.int .i64 (b1 : Int), .int .i64 b2, .int .i64 b3, .bool b4, .int .i64 b5, .int .i64 (b6 : Int)] 177)) (W.heap.size + 1) 177 #[.int .i64 (b1 : Int), .int .i64 b2, .int .i64 b3, .bool b4, .int .i64 b5, .int .i64 (b6 : Int)]) := by
    have := RowAt.new (W.alloc (.cells #[.int .i64 (a1 : Int), .int .i64 a2, .int .i64 a3, .bool a4, .int .i64 a5, .int .i64 (a6 : Int)] 177)) 177 #[.int .i64 (b1 : Int), .int .i64 b2, .int .i64 b3, .bool b4, .int .i64 b5, .int .i64 (b6 : Int)]
    rw [show (W.alloc (.cells #[.int .i64 (a1 : Int), .int .i64 a2, .int .i64 a3, .bool a4, .int .i64 a5, .int .i64 (a6 : Int)] 177)).heap.size = W.heap.size + 1 from by simp] at this
    exact this
  have HX1 : Hid (RowAt ((W.alloc (.cells #[.int .i64 (a1 : Int), .int .i64 a2, .int .i64 a3, .bool a4, .int .i64 a5, .int .i64 (a6 : Int)] 177)).alloc (.cells #[.int .i64 (b1 : Int), .int .i64 b2, .int .i64 b3, .bool b4, .int .i64 b5, .int .i64 (b6 : Int)] 177)) W.heap.size 177 #[.int .i64 (a1 : Int), .int .i64 a2, .int .i64 a3, .bool a4, .int .i64 a5, .int .i64 (a6 : Int)]) := (RowAt.new W _ _).fr (Fr.alloc Non _ _) id
  generalize World.alloc (World.alloc W _) _ = W1 at HF1 HY1 HX1 ⊢
  have HC1 := Lib.hid (HC.out.fr HF1.out)
  have HXM : Hid (W.heap.size ≠ s.mb ∧ W.heap.size + 1 ≠ s.mb) := by have := HC.out.si.met.lt; exact ⟨by omega, by omega⟩
  generalize W.heap.size + 1 = y at HY1 HXM ⊢
  generalize W.heap.size = x at HX1 HXM ⊢
  have v0 : W1.cell? ⟨cb, 0, none⟩ = some (.slice (some ⟨g, 0, none⟩) 3 3) := HC1.out.cr.cell 0
  have HK : Hid (∀ W2, Fr Non W1 W2 → (W2.cell? ⟨x, 0, none⟩ = some (.int .i64 (a1 : Int)) ∧ W2.cell? ⟨x, 1, none⟩ = some (.int .i64 a2) ∧ W2.cell? ⟨x, 2, none⟩ = some (.int .i64 a3) ∧ W2.cell? ⟨x, 3, none⟩ = some (.bool a4) ∧ W2.cell? ⟨x, 4, none⟩ = some (.int .i64 a5) ∧ W2.cell? ⟨x, 5, none⟩ = some (.int .i64 (a6 : Int)) ∧ W2.cell? ⟨y, 0, none⟩ = some (.int .i64 (b1 : Int)) ∧ W2.cell? ⟨y, 1, none⟩ = some (.int .i64 b2) ∧ W2.cell? ⟨y, 2, none⟩ = some (.int .i64 b3) ∧ W2.cell? ⟨y, 3, none⟩ = some (.bool b4) ∧ W2.cell? ⟨y, 4, none⟩ = some (.int .i64 b5) ∧ W2.cell? ⟨y, 5, none⟩ = some (.int .i64 (b6 : Int))) ∧ W2.cell? ⟨g, 0, none⟩ = some (.func (.func 100) #[] #[]) ∧ W2.cell? ⟨g, 1, none⟩ = some (.func (.func 101) #[] #[]) ∧ W2.cell? ⟨g, 2, none⟩ = some (.func (.func 102) #[] #[.pointer (some ⟨xs, 0, none⟩), .pointer (some ⟨xn, 0, none⟩)])) := fun W2 f => by
    have q1 := HX1.out.fr f id
    have q2 := HY1.out.fr f id
    have q3 := HC1.out.gr.fr f id
    exact ⟨⟨q1.cell 0, q1.cell 1, q1.cell 2, q1.cell 3, q1.cell 4, q1.cell 5, q2.cell 0, q2.cell 1, q2.cell 2, q2.cell 3, q2.cell 4, q2.cell 5⟩, q3.cell 0, q3.cell 1, q3.cell 2⟩
  obtain ⟨⟨u0, u1, u2, u3, u4, u5, u6, u7, u8, u9, u10, u11⟩, w0, w1, w2⟩ := HK.out _ (Fr.refl _ _)
  go_wp2
  refine wp_loop_rounds 4 ?_
  rw [rounds_succ]
  go_wp2_with (go_at_call 100; refine (HE.out _).mono ?_; rintro r W2 ⟨rfl, f2⟩; have F2 := Lib.hid f2; clear f2)
  clear u0 u1 u2 u3 u4 u5 u6 u7 u8 u9 u10 u11 w0 w1 w2
  obtain ⟨⟨u0, u1, u2, u3, u4, u5, u6, u7, u8, u9, u10, u11⟩, w0, w1, w2⟩ := HK.out _ F2.out
  rw [rounds_succ]
  go_wp2_with (go_at_call 101; refine (HP.out _).mono ?_; rintro r W3 ⟨rfl, f3⟩; have F3 := Lib.hid (F2.out.trans f3); clear f3)
  clear u0 u1 u2 u3 u4 u5 u6 u7 u8 u9 u10 u11 w0 w1 w2
  obtain ⟨⟨u0, u1, u2, u3, u4, u5, u6, u7, u8, u9, u10, u11⟩, w0, w1, w2⟩ := HK.out _ F3.out
  rw [rounds_succ]
  go_wp2_with (go_at_call 102; refine (HU.out _ (HC1.out.fr F3.out)).mono ?_; rintro r W4 ⟨rfl, hc4, f4⟩; have HC4 := Lib.hid hc4; have F4 := Lib.hid f4; clear f4 hc4)
  rw [rounds_succ]
  go_wp2
  go_ret
  exact ⟨rfl, HC4.out, ((HF1.out.trans F3.out).mono (fun _ _ e => (nomatch e))).trans F4.out⟩
end
end Go.Proofs.YtjaaljcdaamcjaaGreat
