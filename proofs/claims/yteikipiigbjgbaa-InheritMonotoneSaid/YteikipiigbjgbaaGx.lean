/- awake: the examples of the chapter. -/
import Derived.Test.YteikipiigbjgbaaGw
namespace Go.Proofs.Yteikipiigbjgbaa
open Go.RowKit
set_option linter.unusedVariables false

def exB : List Int := [10, 20, 5]
def exE : Es := [(1, 2), (2, 0)]
def exC : List Int := [1, 2]
def exF : Es := [(0, 1), (1, 0)]
theorem ex_chk : chkG exB (emb exE) = 0 := by decide
theorem ex_chk2 : chkG exC (emb exF) = 0 := by decide
theorem gok_of {bs : List Int} {es : Es} (h : chkG bs (emb es) = 0) : GOk bs (emb es) es := by
  obtain ⟨es', h'⟩ := gok h
  have : es' = es := by
    have := h'.emb
    have inj : ∀ a b : Es, emb a = emb b → a = b := by
      intro a
      induction a with
      | nil => intro b hb; cases b with
        | nil => rfl
        | cons _ _ => simp [emb] at hb
      | cons x r ih => intro b hb; cases b with
        | nil => simp [emb] at hb
        | cons y q =>
          simp only [emb, List.map_cons, List.cons.injEq, Prod.mk.injEq] at hb
          have h1 := ih q hb.2
          obtain ⟨x1, x2⟩ := x; obtain ⟨y1, y2⟩ := y
          have h2 : x1 = y1 := by have := hb.1.1; simp at this; omega
          have h3 : x2 = y2 := by have := hb.1.2; simp at this; omega
          rw [h1, h2, h3]
    exact (inj _ _ this).symm
  rw [this] at h'; exact h'
theorem ex_eff {p : Nat → Int} (h : IsEff 3 (fun i => exB.getD i 0) exE p) : (List.range 3).map p = [20, 20, 20] := by
  have b0 := h.ge 0 (by decide)
  have b1 := h.ge 1 (by decide)
  have b2 := h.ge 2 (by decide)
  have e1 := h.edge (1, 2) (by decide)
  have e2 := h.edge (2, 0) (by decide)
  have le : ∀ i, i < 3 → p i ≤ 20 := fun i hi => by
    obtain ⟨j, j1, _, j3⟩ := h.why i hi
    rw [j3]
    match j, j1 with
    | 0, _ => decide
    | 1, _ => decide
    | 2, _ => decide
  have l0 := le 0 (by decide)
  have l1 := le 1 (by decide)
  have l2 := le 2 (by decide)
  have c1 : exB.getD 1 0 = 20 := rfl
  rw [c1] at b1
  simp only at e1 e2
  show [p 0, p 1, p 2] = [20, 20, 20]
  rw [show p 0 = 20 by omega, show p 1 = 20 by omega, show p 2 = 20 by omega]
theorem ex_reason : reason 3 (fun i => exB.getD i 0) exE 0 = [1, 2, 0] := by decide
theorem ex_least : least 2 exF 2 = [0, 1, 0] := by decide
set_option maxRecDepth 100000 in
set_option maxHeartbeats 600000 in
theorem awake_any (w : World) : Calls Try.prog 6 #[] w fun e w' => e = .returned (.bool true) ∧ Fr No w w' := by
  have HA : Hid (∀ W g h, NumsAt W g 0 exB → EdgesAt W h 0 (emb exE) → Calls Try.prog 12 #[.agg #[.slice (some ⟨g, 0, none⟩) 3 3, .slice (some ⟨h, 0, none⟩) 2 2]] W fun e w' => ∃ v, e = .returned (.tuple #[v, .int .i64 0]) ∧ SlI w' v [20, 20, 20] ∧ Fr No W w') := fun W g h h1 h2 =>
    (effective_ok (a := some ⟨g, 0, none⟩) (c := some ⟨h, 0, none⟩) (cap := 3) (cap' := 2) (bs := exB) (raw := emb exE) (.inr ⟨g, 0, rfl, h1⟩) (.inr ⟨h, 0, rfl, h2⟩) ex_chk (gok_of ex_chk) (stable_small (by decide)) (fun e => nomatch e)).mono fun e w' ⟨v, p, he, hp, ho, hf⟩ => ⟨v, he, by
      have := SlI.own (l := (List.range 3).map p) (by rw [← encP_eq]; exact ho)
      rw [ex_eff hp] at this; exact this, hf⟩
  have HB : Hid (∀ W g h, NumsAt W g 0 exB → EdgesAt W h 0 (emb exE) → Calls Try.prog 17 #[.agg #[.slice (some ⟨g, 0, none⟩) 3 3, .slice (some ⟨h, 0, none⟩) 2 2], .int .i64 0] W fun e w' => ∃ v, e = .returned (.tuple #[v, .int .i64 0]) ∧ SlI w' v [1, 2, 0] ∧ Fr No W w') := fun W g h h1 h2 =>
    (reason_ok (a := some ⟨g, 0, none⟩) (c := some ⟨h, 0, none⟩) (cap := 3) (cap' := 2) (bs := exB) (raw := emb exE) (.inr ⟨g, 0, rfl, h1⟩) (.inr ⟨h, 0, rfl, h2⟩) ex_chk (gok_of ex_chk) 0 (by decide)).mono fun e w' ⟨v, he, ho, hf⟩ => ⟨v, he, by
      have e1 : reason exB.length (fun i => exB.getD i 0) exE 0 = [1, 2, 0] := ex_reason
      rw [e1, encN_eq] at ho; exact SlI.own ho, hf⟩
  have HC : Hid (∀ W g h, NumsAt W g 0 exC → EdgesAt W h 0 (emb exF) → Calls Try.prog 16 #[.agg #[.slice (some ⟨g, 0, none⟩) 2 2, .slice (some ⟨h, 0, none⟩) 2 2]] W fun e w' => ∃ v, e = .returned (.tuple #[v, .int .i64 0]) ∧ SlI w' v [0, 1, 0] ∧ Fr No W w') := fun W g h h1 h2 =>
    (cycle_ok (a := some ⟨g, 0, none⟩) (c := some ⟨h, 0, none⟩) (cap := 2) (cap' := 2) (bs := exC) (raw := emb exF) (.inr ⟨g, 0, rfl, h1⟩) (.inr ⟨h, 0, rfl, h2⟩) ex_chk2 (gok_of ex_chk2)).mono fun e w' ⟨v, he, ho, hf⟩ => ⟨v, by
      have e1 : least exC.length exF exC.length = [0, 1, 0] := ex_least
      rw [e1] at he; exact he, by
      have e1 : least exC.length exF exC.length = [0, 1, 0] := ex_least
      rw [e1, encN_eq] at ho; exact SlI.own ho, hf⟩
  go_enter Try.func6, Try.ntmps6
  go_upto_region 2 with (fail)
  have HR0 : Hid (RowAt (((w.alloc (.cells #[.int .i64 10, .int .i64 20, .int .i64 5] 3)).alloc (.cells #[.int .i64 1, .int .i64 2, .int .i64 2, .int .i64 0] 36)).alloc (.cells #[.slice (some ⟨w.heap.size, 0, none⟩) 3 3, .slice (some ⟨w.heap.size + 1, 0, none⟩) 2 2] 40)) w.heap.size 3 #[.int .i64 10, .int .i64 20, .int .i64 5]) := ((RowAt.new w _ _).fr (Fr.alloc No _ _) id).fr (Fr.alloc No _ _) id
  have HR1 : Hid (RowAt (((w.alloc (.cells #[.int .i64 10, .int .i64 20, .int .i64 5] 3)).alloc (.cells #[.int .i64 1, .int .i64 2, .int .i64 2, .int .i64 0] 36)).alloc (.cells #[.slice (some ⟨w.heap.size, 0, none⟩) 3 3, .slice (some ⟨w.heap.size + 1, 0, none⟩) 2 2] 40)) (w.heap.size + 1) 36 #[.int .i64 1, .int .i64 2, .int .i64 2, .int .i64 0]) := by
    have := RowAt.new (w.alloc (.cells #[.int .i64 10, .int .i64 20, .int .i64 5] 3)) 36 #[.int .i64 1, .int .i64 2, .int .i64 2, .int .i64 0]
    rw [show (w.alloc (.cells #[.int .i64 10, .int .i64 20, .int .i64 5] 3)).heap.size = w.heap.size + 1 from by simp] at this
    exact this.fr (Fr.alloc No _ _) id
  have HR2 : Hid (RowAt (((w.alloc (.cells #[.int .i64 10, .int .i64 20, .int .i64 5] 3)).alloc (.cells #[.int .i64 1, .int .i64 2, .int .i64 2, .int .i64 0] 36)).alloc (.cells #[.slice (some ⟨w.heap.size, 0, none⟩) 3 3, .slice (some ⟨w.heap.size + 1, 0, none⟩) 2 2] 40)) (w.heap.size + 1 + 1) 40 #[.slice (some ⟨w.heap.size, 0, none⟩) 3 3, .slice (some ⟨w.heap.size + 1, 0, none⟩) 2 2]) := by
    have := RowAt.new ((w.alloc (.cells #[.int .i64 10, .int .i64 20, .int .i64 5] 3)).alloc (.cells #[.int .i64 1, .int .i64 2, .int .i64 2, .int .i64 0] 36)) 40 #[.slice (some ⟨w.heap.size, 0, none⟩) 3 3, .slice (some ⟨w.heap.size + 1, 0, none⟩) 2 2]
    rw [show ((w.alloc (.cells #[.int .i64 10, .int .i64 20, .int .i64 5] 3)).alloc (.cells #[.int .i64 1, .int .i64 2, .int .i64 2, .int .i64 0] 36)).heap.size = w.heap.size + 1 + 1 from by simp] at this
    exact this
  have HF1 : Hid (Fr No w (((w.alloc (.cells #[.int .i64 10, .int .i64 20, .int .i64 5] 3)).alloc (.cells #[.int .i64 1, .int .i64 2, .int .i64 2, .int .i64 0] 36)).alloc (.cells #[.slice (some ⟨w.heap.size, 0, none⟩) 3 3, .slice (some ⟨w.heap.size + 1, 0, none⟩) 2 2] 40))) := ((Fr.alloc _ _ _).trans (Fr.alloc _ _ _)).trans (Fr.alloc _ _ _)
  generalize World.alloc (World.alloc (World.alloc w _) _) _ = W1 at HR0 HR1 HR2 HF1 ⊢
  generalize w.heap.size = g at HR0 HR1 HR2 ⊢
  have HNA : Hid (∀ W, Fr No W1 W → NumsAt W g 0 exB ∧ EdgesAt W (g + 1) 0 (emb exE)) := fun W f => by
    have r0 := HR0.out.fr f id
    have r1 := HR1.out.fr f id
    refine ⟨⟨r0.lt, fun i x hx => ?_⟩, ⟨r1.lt, fun i x hx => ?_⟩⟩
    · rw [r0.cell, Nat.zero_add]
      match i, hx with
      | 0, hx => cases hx; rfl
      | 1, hx => cases hx; rfl
      | 2, hx => cases hx; rfl
    · rw [r1.cell, r1.cell, Nat.zero_add]
      match i, hx with
      | 0, hx => cases hx; exact ⟨rfl, rfl⟩
      | 1, hx => cases hx; exact ⟨rfl, rfl⟩
  have HNC : Hid (∀ W W2, Fr No W1 W → W2 = (W.alloc (.cells #[.int .i64 1, .int .i64 2] 3)).alloc (.cells #[.int .i64 0, .int .i64 1, .int .i64 1, .int .i64 0] 36) → NumsAt W2 W.heap.size 0 exC ∧ EdgesAt W2 (W.heap.size + 1) 0 (emb exF) ∧ Fr No W W2) := fun W W2 f e => by
    subst e
    have r0 := (RowAt.new W 3 #[.int .i64 1, .int .i64 2]).fr (Fr.alloc No _ (.cells #[.int .i64 0, .int .i64 1, .int .i64 1, .int .i64 0] 36)) id
    have r1 := RowAt.new (W.alloc (.cells #[.int .i64 1, .int .i64 2] 3)) 36 #[.int .i64 0, .int .i64 1, .int .i64 1, .int .i64 0]
    rw [show (W.alloc (.cells #[.int .i64 1, .int .i64 2] 3)).heap.size = W.heap.size + 1 from by simp] at r1
    refine ⟨⟨r0.lt, fun i x hx => ?_⟩, ⟨r1.lt, fun i x hx => ?_⟩, (Fr.alloc _ _ _).trans (Fr.alloc _ _ _)⟩
    · rw [r0.cell, Nat.zero_add]
      match i, hx with
      | 0, hx => cases hx; rfl
      | 1, hx => cases hx; rfl
    · rw [r1.cell, r1.cell, Nat.zero_add]
      match i, hx with
      | 0, hx => cases hx; exact ⟨rfl, rfl⟩
      | 1, hx => cases hx; exact ⟨rfl, rfl⟩
  have HEQ : Hid (∀ W v a b c, SlI W v [a, b, c] → Calls Try.prog 19 #[v, .slice (some ⟨W.heap.size, 0, none⟩) 3 3] (W.alloc (.cells #[.int .i64 a, .int .i64 b, .int .i64 c] 3)) fun e w' => e = .returned (.bool true) ∧ Fr No (W.alloc (.cells #[.int .i64 a, .int .i64 b, .int .i64 c] 3)) w') := fun W v a b c h => by
    have r0 := RowAt.new W 3 #[.int .i64 a, .int .i64 b, .int .i64 c]
    have := equal_any [a, b, c] [a, b, c] (W.alloc (.cells #[.int .i64 a, .int .i64 b, .int .i64 c] 3)) v (.slice (some ⟨W.heap.size, 0, none⟩) 3 3) (h.no (Fr.alloc _ _ _)) ⟨_, _, rfl, .inr ⟨_, 0, rfl, fun j x hx => by
      rw [r0.cell, Nat.zero_add]
      match j, hx with
      | 0, hx => cases hx; rfl
      | 1, hx => cases hx; rfl
      | 2, hx => cases hx; rfl⟩⟩ (by simp)
    simpa using this
  go_wp2_with (first
    | (refine wpList_load_mid rfl 40 (Operand.tmp 1) rfl (g + 1 + 1) 0 rfl [_, _] _ HR2.out.range Try.underlying40 rfl size_graph ?_)
    | (refine wpList_load_mid rfl 40 (Operand.tmp 1) rfl (g + 1 + 1) 0 rfl [_, _] _ (HR2.out.fr F2.out id).range Try.underlying40 rfl size_graph ?_)
    | (go_at_call 12; refine (HA.out _ g (g + 1) (HNA.out _ (Fr.refl _ _)).1 (HNA.out _ (Fr.refl _ _)).2).mono ?_; rintro e W2 ⟨v2, rfl, s2, f2⟩; have S2 := Lib.hid s2; have F2 := Lib.hid f2; clear s2 f2)
    | (go_at_call 17; refine (HB.out _ g (g + 1) (HNA.out _ F2.out).1 (HNA.out _ F2.out).2).mono ?_; rintro e W3 ⟨v3, rfl, s3, f3⟩; have S3 := Lib.hid s3; have F3 := Lib.hid (F2.out.trans f3); have SB := Lib.hid (S2.out.no f3); clear s3 f3)
    | (go_at_call 16; refine (HC.out _ W3.heap.size (W3.heap.size + 1) (HNC.out W3 _ F3.out rfl).1 (HNC.out W3 _ F3.out rfl).2.1).mono ?_; rintro e W4 ⟨v4, rfl, s4, f4⟩; have S4 := Lib.hid s4; have FF := Lib.hid ((HNC.out W3 _ F3.out rfl).2.2.trans f4); have F4 := Lib.hid (F3.out.trans FF.out); have SC := Lib.hid (SB.out.no FF.out); have SD := Lib.hid (S3.out.no FF.out); clear s4 f4)
    | (go_at_call 19; refine (HEQ.out W4 v2 20 20 20 SC.out).mono ?_; rintro e W5 ⟨rfl, f5⟩; have G5 := Lib.hid ((Fr.alloc No W4 _).trans f5); clear f5 SC)
    | (go_at_call 19; refine (HEQ.out W5 v3 1 2 0 (SD.out.no G5.out)).mono ?_; rintro e W6 ⟨rfl, f6⟩; have G6 := Lib.hid (G5.out.trans ((Fr.alloc No W5 _).trans f6)); clear f6 SD)
    | (go_at_call 19; refine (HEQ.out W6 v4 0 1 0 (S4.out.no G6.out)).mono ?_; rintro e W7 ⟨rfl, f7⟩; have G7 := Lib.hid (G6.out.trans ((Fr.alloc No W6 _).trans f7)); clear f7))
  go_ret
  exact ⟨rfl, (HF1.out.trans F4.out).trans G7.out⟩
end Go.Proofs.Yteikipiigbjgbaa
