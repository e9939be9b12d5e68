/- Interrupts: a line without attachments is delivered; what a delivery keeps. -/
import Derived.Test.YtbnchmhhhildnaaXr
namespace Go.Proofs.Ytbnchmhhhildnaa
open Go.RowKit Go.Maps
set_option linter.unusedVariables false

set_option maxRecDepth 100000 in
set_option maxHeartbeats 2000000 in
theorem dline_none {W : World} {O : Nat → Prop} {B : Nat} {y : LY} {s : IS} (h : CM W O B y s) {n : Nat} {l : IL} (hl : s.ls[n]? = some l) (hne : l.o = []) :
    Calls Try.prog 45 #[.pointer (some ⟨B, 0, none⟩), .int .i64 (n : Int)] W fun e w' => e = .returned (.slice none 0 0) ∧ CM w' O B y (setLs s n { l with p := false, s := wrap64 (l.s + 1) }) ∧ Fr O W w' := by
  obtain ⟨a0, cap, hv⟩ := h.vs hl
  rw [hne] at hv
  have hn := (List.getElem?_eq_some_iff.1 hl).1
  have n0 : (0 : Int) ≤ (n : Int) := by omega
  have n1 : (n : Int) < (s.ls.length : Nat) := by omega
  have c0 : W.cell? ⟨B, 0, none⟩ = some (.slice (some ⟨y.b, 0, none⟩) s.ls.length y.cap) := h.row.cell 0
  have q1 : W.cell? ⟨y.b, n * 4 + 2, none⟩ = some (.bool l.p) := (h.lines.cells hl hv).2.2.1
  have f1 : ∀ i, W.frozen? ⟨y.b, i, none⟩ = false := fun i => h.lines.frozen _
  have q2 : W.cell? ⟨y.b, n * 4 + 1, none⟩ = some (.slice a0 0 cap) := (h.lines.cells hl hv).2.1
  have q3 : W.cell? ⟨y.b, n * 4 + 3, none⟩ = some (.int .i64 l.s) := (h.lines.cells hl hv).2.2.2
  have h1 : CM (W.setCell ⟨y.b, n * 4 + 2, none⟩ (.bool false)) O B y (setLs s n { l with p := false }) := h.setL hl (.inl rfl) (.bool false) { l with p := false } rfl rfl (.inl ⟨rfl, rfl⟩) (.inr ⟨by omega, rfl⟩)
  have hl' : (setLs s n { l with p := false }).ls[n]? = some { l with p := false } := by show (s.ls.set n _)[n]? = _; rw [List.getElem?_set_self hn]
  have h2 := h1.setL hl' (q := 3) (.inr rfl) (.int .i64 (wrap64 (l.s + 1))) { l with p := false, s := wrap64 (l.s + 1) } rfl rfl (.inr ⟨by omega, rfl⟩) (.inl ⟨rfl, rfl⟩)
  have h3 : CM ((W.setCell ⟨y.b, n * 4 + 2, none⟩ (.bool false)).setCell ⟨y.b, n * 4 + 3, none⟩ (.int .i64 (wrap64 (l.s + 1)))) O B y (setLs s n { l with p := false, s := wrap64 (l.s + 1) }) := by
    have e : { (setLs s n { l with p := false }) with ls := (setLs s n { l with p := false }).ls.set n { l with p := false, s := wrap64 (l.s + 1) } } = setLs s n { l with p := false, s := wrap64 (l.s + 1) } := by
      unfold setLs
      simp
    rw [← e]; exact h2
  have HM := Lib.hid h3
  have HF : Hid (Fr O W ((W.setCell ⟨y.b, n * 4 + 2, none⟩ (.bool false)).setCell ⟨y.b, n * 4 + 3, none⟩ (.int .i64 (wrap64 (l.s + 1))))) := (Fr.set _ _ _ _ h.ob).trans (Fr.set _ _ _ _ h.ob)
  clear h hl hne hv hl' hn h1 h2 h3
  go_enter Try.func45, Try.ntmps45
  go_wp2
  refine wp_loop_rounds 1 ?_
  rw [rounds_succ]
  go_wp2
  go_ret
  exact ⟨rfl, HM.out, HF.out⟩
theorem dQ_one (s : IS) (n : Int) {o : List Int} (hd : o.Nodup) (k : Int × Int) : (dQ s n o).1 k = s.cn k ∨ ∃ x ∈ o, k = (n, x) ∧ (dQ s n o).1 k = s.cn k + 1 := by
  have key : ∀ (o : List Int) (q : (Int × Int → Int) × (Int → Int) × List Dv), o.Nodup → (o.foldl (dOne s.att n) q).1 k = q.1 k ∨ ∃ x ∈ o, k = (n, x) ∧ (o.foldl (dOne s.att n) q).1 k = q.1 k + 1 := fun o => by
    induction o with
    | nil => intro q _; exact .inl rfl
    | cons a r ih =>
      intro q hd
      obtain ⟨h1, h2⟩ := List.nodup_cons.1 hd
      rw [List.foldl_cons]
      have hq : (dOne s.att n q a).1 k = q.1 k ∨ k = (n, a) ∧ (dOne s.att n q a).1 k = q.1 k + 1 := by
        by_cases e : k = (n, a)
        · subst e
          show (if _ then q.1 else _) _ = _ ∨ _
          unfold dOne
          split
          · exact .inl rfl
          · exact .inr ⟨rfl, upd_same _ _ _⟩
        · left
          show (if _ then q.1 else _) k = _
          split
          · rfl
          · exact upd_other e
      rcases ih (dOne s.att n q a) h2 with e | ⟨x, hx, e1, e2⟩
      · rw [e]
        rcases hq with hq | ⟨hq1, hq2⟩
        · exact .inl hq
        · exact .inr ⟨a, by simp, hq1, hq2⟩
      · right
        refine ⟨x, by simp [hx], e1, ?_⟩
        rw [e2]
        rcases hq with hq | ⟨hq1, _⟩
        · rw [hq]
        · have : x = a := congrArg Prod.snd (e1.symm.trans hq1)
          subst this; exact absurd hx h1
  exact key o _ hd
theorem slq_zero {f : Int × Int → Int} {n : Int} (h0 : ∀ k, 0 ≤ f k) : ∀ {l : List Int}, slq f n l = 0 → ∀ x ∈ l, f (n, x) = 0
  | [], _, x, hx => by simp at hx
  | a :: r, h, x, hx => by
    have h1 := h0 (n, a)
    have h2 : 0 ≤ slq f n r := by
      clear h hx
      induction r with
      | nil => simp [slq]
      | cons b r ih => rw [slq]; have := h0 (n, b); omega
    rw [slq] at h
    rcases List.mem_cons.1 hx with rfl | hx
    · omega
    · exact slq_zero h0 (by omega) x hx
theorem sumL_zero {s : IS} (hk : IOk s) {n : Int} {o : List Int} (h : sumL s n o = 0) : s.cn (n, -1) = 0 ∧ ∀ x ∈ o, s.cn (n, x) = 0 := by
  have h1 := hk.c0 (n, -1)
  have h2 := (slq_le s.cn n hk.c0 hk.c1 o).1
  unfold sumL at h
  exact ⟨by omega, slq_zero hk.c0 (by omega)⟩
/-- A line behind its delivery. -/
def dlL (l : IL) : IL := { l with p := false, s := if l.o = [] then wrap64 (l.s + 1) else l.s }
/-- A controller behind the delivery of a line. -/
noncomputable def dlS (s : IS) (n : Nat) (l : IL) : IS := { (setLs s n (dlL l)) with cn := (dQ s n l.o).1, th := (dQ s n l.o).2.1 }
theorem IOk.dlS {s : IS} (h : IOk s) {n : Nat} {l : IL} (hl : s.ls[n]? = some l) (hz : sumL s n l.o = 0) : IOk (dlS s n l) := by
  have h1 := h.setL hl (l' := dlL l) rfl
  obtain ⟨z1, z2⟩ := sumL_zero h hz
  have hd := dQ_one s n (h.dup n l hl)
  refine ⟨h1.n0, h1.n1, h1.srt, h1.key, h1.cnt, h1.ord, h1.dup, h1.lin, fun k => ?_, fun k => ?_, fun i x hx => ?_⟩
  · show 0 ≤ (dQ s n l.o).1 k
    have := h.c0 k
    rcases hd k with e | ⟨x, _, _, e⟩ <;> rw [e] <;> omega
  · show (dQ s n l.o).1 k ≤ 1000
    rcases hd k with e | ⟨x, hx, e1, e⟩
    · rw [e]; exact h.c1 k
    · rw [e, e1, z2 x hx]; omega
  · have hx : (dQ s n l.o).1 ((i : Int), x) ≠ 0 := hx
    rcases hd ((i : Int), x) with e | ⟨z, hz2, e1, e⟩
    · rw [e] at hx; exact h.cz i x hx
    · have e3 : x = z := congrArg Prod.snd e1
      have e4 : (i : Int) = n := congrArg Prod.fst e1
      have e5 : i = n := by omega
      subst e3; subst e5
      exact .inr ((h.ord i l x hl).1 hz2)
/-- What the lines up to k make of a Deliver. -/
noncomputable def dA (s : IS) : Nat → IS × List Dv
  | 0 => (s, [])
  | k + 1 => match (dA s k).1.ls[k]? with
    | some l => if l.p = true ∧ sumL (dA s k).1 k l.o = 0 then (dlS (dA s k).1 k l, (dA s k).2 ++ (dQ (dA s k).1 k l.o).2.2) else dA s k
    | none => dA s k
theorem dA_ok {s : IS} (h : IOk s) : ∀ k, IOk (dA s k).1
  | 0 => h
  | k + 1 => by
    have ih := dA_ok h k
    rw [dA]
    split
    · rename_i l hl
      split
      · rename_i hc; exact ih.dlS hl hc.2
      · exact ih
    · exact ih
theorem dA_len {s : IS} : ∀ k, (dA s k).1.ls.length = s.ls.length
  | 0 => rfl
  | k + 1 => by
    rw [dA]
    split
    · split
      · show (List.set _ _ _).length = _
        rw [List.length_set, dA_len k]
      · exact dA_len k
    · exact dA_len k
theorem dA_count {s : IS} (h : IOk s) : ∀ k, (dA s k).2.length ≤ 100 * k
  | 0 => Nat.le_refl _
  | k + 1 => by
    have ih := dA_count h k
    rw [dA]
    split
    · rename_i l hl
      split
      · rw [List.length_append, dQ_len]
        have := (dA_ok h k).olen hl
        omega
      · omega
    · omega
end Go.Proofs.Ytbnchmhhhildnaa
