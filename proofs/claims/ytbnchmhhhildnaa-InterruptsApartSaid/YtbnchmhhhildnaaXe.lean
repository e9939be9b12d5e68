/- Interrupts: what changes leave; isMade, checkLine, isThread, isAttached, leastFree. -/
import Derived.Test.YtbnchmhhhildnaaXd
namespace Go.Proofs.Ytbnchmhhhildnaa
open Go.RowKit Go.Maps
set_option linter.unusedVariables false

theorem LC.fr {W W' : World} {b : Nat} {ls : List IL} {vs : List Value} {S : Nat → Prop} (h : LC W b ls vs) (hf : Fr S W W') (hS : ¬ S b) : LC W' b ls vs := by
  obtain ⟨cur, h1, h2⟩ := h
  exact ⟨cur, (hf.block b (Array.getElem?_eq_some_iff.1 h1).1 hS).trans h1, h2⟩
theorem LC.lt {W : World} {b : Nat} {ls : List IL} {vs : List Value} (h : LC W b ls vs) : b < W.heap.size := by
  obtain ⟨cur, h1, _⟩ := h; exact (Array.getElem?_eq_some_iff.1 h1).1
theorem LC.cells {W : World} {b : Nat} {ls : List IL} {vs : List Value} (h : LC W b ls vs) {i : Nat} {l : IL} {v : Value} (hl : ls[i]? = some l) (hv : vs[i]? = some v) :
    W.cell? ⟨b, i * 4, none⟩ = some (.chan (some l.ch)) ∧ W.cell? ⟨b, i * 4 + 1, none⟩ = some v ∧ W.cell? ⟨b, i * 4 + 2, none⟩ = some (.bool l.p) ∧ W.cell? ⟨b, i * 4 + 3, none⟩ = some (.int .i64 l.s) := by
  obtain ⟨cur, h1, h2⟩ := h
  obtain ⟨a, b', c, d⟩ := h2 i l v hl hv
  exact ⟨(cell_of_row W b _ cur _ (0, 0) h1).trans a, (cell_of_row W b _ cur _ (0, 0) h1).trans b', (cell_of_row W b _ cur _ (0, 0) h1).trans c, (cell_of_row W b _ cur _ (0, 0) h1).trans d⟩
theorem LC.frozen {W : World} {b : Nat} {ls : List IL} {vs : List Value} (h : LC W b ls vs) (i : Nat) : W.frozen? ⟨b, i, none⟩ = false := by
  obtain ⟨cur, h1, _⟩ := h
  exact frozen_of_row _ _ i _ _ h1
/-- One cell of a line is stored. -/
theorem LC.put {W : World} {b : Nat} {ls : List IL} {vs : List Value} (h : LC W b ls vs) {i q : Nat} {l : IL} {v : Value} (hl : ls[i]? = some l) (hv : vs[i]? = some v) (hq : q < 4) (u : Value) (l' : IL) (v' : Value)
    (h0 : q = 0 ∧ u = .chan (some l'.ch) ∨ q ≠ 0 ∧ l'.ch = l.ch) (h1 : q = 1 ∧ u = v' ∨ q ≠ 1 ∧ v' = v) (h2 : q = 2 ∧ u = .bool l'.p ∨ q ≠ 2 ∧ l'.p = l.p) (h3 : q = 3 ∧ u = .int .i64 l'.s ∨ q ≠ 3 ∧ l'.s = l.s) :
    LC (W.setCell ⟨b, i * 4 + q, none⟩ u) b (ls.set i l') (vs.set i v') := by
  obtain ⟨cur, e1, e2⟩ := h
  refine ⟨cur.setIfInBounds (i * 4 + q) u, heap_setCell_same W _ _ _ _ _ e1, fun j m w hm hw => ?_⟩
  have hil := (List.getElem?_eq_some_iff.1 hl).1
  have hiv := (List.getElem?_eq_some_iff.1 hv).1
  have hsz : ∀ k, k < 4 → i * 4 + k < cur.size := fun k hk => by
    obtain ⟨a, b', c, d⟩ := e2 i l v hl hv
    match k, hk with
    | 0, _ => exact (Array.getElem?_eq_some_iff.1 a).1
    | 1, _ => exact (Array.getElem?_eq_some_iff.1 b').1
    | 2, _ => exact (Array.getElem?_eq_some_iff.1 c).1
    | 3, _ => exact (Array.getElem?_eq_some_iff.1 d).1
  by_cases hj : j = i
  · subst hj
    rw [List.getElem?_set_self hil] at hm
    rw [List.getElem?_set_self hiv] at hw
    cases hm; cases hw
    obtain ⟨a, b', c, d⟩ := e2 j l v hl hv
    refine ⟨?_, ?_, ?_, ?_⟩
    · rw [Array.getElem?_setIfInBounds]
      rcases h0 with ⟨rfl, rfl⟩ | ⟨hne, he⟩
      · rw [if_pos (by omega), if_pos (hsz _ hq)]
      · rw [if_neg (by omega), a, he]
    · rw [Array.getElem?_setIfInBounds]
      rcases h1 with ⟨rfl, rfl⟩ | ⟨hne, he⟩
      · rw [if_pos (by omega), if_pos (hsz _ hq)]
      · rw [if_neg (by omega), b', he]
    · rw [Array.getElem?_setIfInBounds]
      rcases h2 with ⟨rfl, rfl⟩ | ⟨hne, he⟩
      · rw [if_pos (by omega), if_pos (hsz _ hq)]
      · rw [if_neg (by omega), c, he]
    · rw [Array.getElem?_setIfInBounds]
      rcases h3 with ⟨rfl, rfl⟩ | ⟨hne, he⟩
      · rw [if_pos (by omega), if_pos (hsz _ hq)]
      · rw [if_neg (by omega), d, he]
  · rw [List.getElem?_set_ne (fun e => hj e.symm)] at hm hw
    obtain ⟨a, b', c, d⟩ := e2 j m w hm hw
    refine ⟨?_, ?_, ?_, ?_⟩ <;> rw [Array.getElem?_setIfInBounds, if_neg (by omega)] <;> assumption
theorem OL.block {W : World} {v : Value} {o : List Int} {k : Nat} (h : OL W v o) (hk : v.ownBlock = some k) : ∃ cur, W.heap[k]? = some (Obj.cells cur 3 (0, 0)) := by
  rcases h.2 with ⟨h1, _⟩ | ⟨g, cap, cur, h1, _, h3, _⟩
  · rw [h1] at hk; cases hk
  · rw [h1] at hk; cases hk; exact ⟨cur, h3⟩
/-- What is not its own is let be. -/
theorem CM.fr {W W' : World} {O : Nat → Prop} {B : Nat} {y : LY} {s : IS} {S : Nat → Prop} (h : CM W O B y s) (hf : Fr S W W') (hS : ∀ k, O k → ¬ S k) : CM W' O B y s :=
  ⟨h.row.fr hf (hS _ h.oB), h.lines.fr hf (hS _ h.ob), h.len, fun i l v hl hv => own_fr2 (h.ord i l v hl hv) hf (fun k hk => hS _ (h.ov i v k hv hk)), h.apart, h.ma.fr hf (hS _ h.oa), h.mc.fr hf (hS _ h.oc), h.mt.fr hf (hS _ h.ot), h.ac, h.at_, h.ct, h.oB, h.ob, h.oa, h.oc, h.ot, h.ov, fun k hk => Nat.lt_of_lt_of_le (h.top k hk) hf.size⟩
theorem CM.no {W W' : World} {O : Nat → Prop} {B : Nat} {y : LY} {s : IS} (h : CM W O B y s) (hf : Fr No W W') : CM W' O B y s := h.fr hf (fun _ _ => id)
theorem CM.mono {W : World} {O O' : Nat → Prop} {B : Nat} {y : LY} {s : IS} (h : CM W O B y s) (h1 : ∀ k, O k → O' k) (h2 : ∀ k, O' k → k < W.heap.size) : CM W O' B y s :=
  ⟨h.row, h.lines, h.len, h.ord, h.apart, h.ma, h.mc, h.mt, h.ac, h.at_, h.ct, h1 _ h.oB, h1 _ h.ob, h1 _ h.oa, h1 _ h.oc, h1 _ h.ot, fun i v k hv hk => h1 _ (h.ov i v k hv hk), h2⟩
theorem heap_ne {W : World} {b c : Nat} {o : Obj} {es : Array MapEntry} {ck : Nat} (h1 : W.heap[b]? = some (.map es ck)) (h2 : W.heap[c]? = some o) (h3 : ∀ es ck, o ≠ .map es ck) : c ≠ b := fun e => by
  subst e; rw [h1] at h2; cases h2; exact h3 _ _ rfl
theorem cells_ne {W : World} {b c : Nat} {x y : Array Value} {t u : TypeId} {f g : Nat × Nat} (h1 : W.heap[b]? = some (.cells x t f)) (h2 : W.heap[c]? = some (.cells y u g)) (h3 : t ≠ u) : b ≠ c := fun e => by
  subst e; rw [h1] at h2; cases h2; exact h3 rfl
theorem CM.map_ne {W : World} {O : Nat → Prop} {B : Nat} {y : LY} {s : IS} (h : CM W O B y s) {m : Nat} {es : Array MapEntry} {ck : Nat} (hm : W.heap[m]? = some (.map es ck)) : B ≠ m ∧ y.b ≠ m ∧ ∀ (i : Nat) (v : Value) (k : Nat), y.vs[i]? = some v → v.ownBlock = some k → k ≠ m := by
  obtain ⟨cur, h1, _⟩ := h.lines
  refine ⟨heap_ne hm h.row (fun _ _ e => by cases e), heap_ne hm h1 (fun _ _ e => by cases e), fun i v k hv hk => ?_⟩
  have hi : i < s.ls.length := by rw [← h.len]; exact (List.getElem?_eq_some_iff.1 hv).1
  obtain ⟨cur', h2⟩ := (h.ord i _ v (List.getElem?_eq_getElem hi) hv).block hk
  exact heap_ne hm h2 (fun _ _ e => by cases e)
/-- The attachments' map changes. -/
theorem CM.setA {W W' : World} {O : Nat → Prop} {B : Nat} {y : LY} {s : IS} (h : CM W O B y s) (hf : Fr (fun k => k = y.a) W W') {l : TS} (hm : TM W' y.a l) : CM W' O B y { s with att := l } := by
  obtain ⟨es, ck, e1, _⟩ := h.ma
  obtain ⟨n1, n2, n3⟩ := h.map_ne e1
  exact ⟨h.row.fr hf n1, h.lines.fr hf n2, h.len, fun i l v hl hv => own_fr2 (h.ord i l v hl hv) hf (fun k hk => n3 i v k hv hk), h.apart, hm, h.mc.fr hf (Ne.symm h.ac), h.mt.fr hf (Ne.symm h.at_), h.ac, h.at_, h.ct, h.oB, h.ob, h.oa, h.oc, h.ot, h.ov, fun k hk => Nat.lt_of_lt_of_le (h.top k hk) hf.size⟩
/-- The counts' map changes. -/
theorem CM.setC {W W' : World} {O : Nat → Prop} {B : Nat} {y : LY} {s : IS} (h : CM W O B y s) (hf : Fr (fun k => k = y.c) W W') {f : Int × Int → Int} (hm : GZ kC W' y.c f) : CM W' O B y { s with cn := f } := by
  obtain ⟨es, ck, e1, _⟩ := h.mc
  obtain ⟨n1, n2, n3⟩ := h.map_ne e1
  exact ⟨h.row.fr hf n1, h.lines.fr hf n2, h.len, fun i l v hl hv => own_fr2 (h.ord i l v hl hv) hf (fun k hk => n3 i v k hv hk), h.apart, h.ma.fr hf h.ac, hm, h.mt.fr hf (Ne.symm h.ct), h.ac, h.at_, h.ct, h.oB, h.ob, h.oa, h.oc, h.ot, h.ov, fun k hk => Nat.lt_of_lt_of_le (h.top k hk) hf.size⟩
/-- The threads' map changes. -/
theorem CM.setT {W W' : World} {O : Nat → Prop} {B : Nat} {y : LY} {s : IS} (h : CM W O B y s) (hf : Fr (fun k => k = y.t) W W') {f : Int → Int} (hm : GZ kT W' y.t f) : CM W' O B y { s with th := f } := by
  obtain ⟨es, ck, e1, _⟩ := h.mt
  obtain ⟨n1, n2, n3⟩ := h.map_ne e1
  exact ⟨h.row.fr hf n1, h.lines.fr hf n2, h.len, fun i l v hl hv => own_fr2 (h.ord i l v hl hv) hf (fun k hk => n3 i v k hv hk), h.apart, h.ma.fr hf h.at_, h.mc.fr hf h.ct, hm, h.ac, h.at_, h.ct, h.oB, h.ob, h.oa, h.oc, h.ot, h.ov, fun k hk => Nat.lt_of_lt_of_le (h.top k hk) hf.size⟩
theorem tne_in_int : (66 : TypeId) ≠ 3 := by decide
theorem tne_in_ct : (66 : TypeId) ≠ 63 := by decide
theorem tne_int_ct : (3 : TypeId) ≠ 63 := by decide
theorem CM.line_ne {W : World} {O : Nat → Prop} {B : Nat} {y : LY} {s : IS} (h : CM W O B y s) : B ≠ y.b ∧ y.a ≠ y.b ∧ y.c ≠ y.b ∧ y.t ≠ y.b ∧ ∀ (i : Nat) (v : Value) (k : Nat), y.vs[i]? = some v → v.ownBlock = some k → k ≠ y.b := by
  obtain ⟨cur, h1, _⟩ := h.lines
  obtain ⟨es1, ck1, a1, _⟩ := h.ma
  obtain ⟨es2, ck2, a2, _⟩ := h.mc
  obtain ⟨es3, ck3, a3, _⟩ := h.mt
  refine ⟨cells_ne h.row h1 (Ne.symm tne_in_ct), (h.map_ne a1).2.1.symm, (h.map_ne a2).2.1.symm, (h.map_ne a3).2.1.symm, fun i v k hv hk => ?_⟩
  have hi : i < s.ls.length := by rw [← h.len]; exact (List.getElem?_eq_some_iff.1 hv).1
  obtain ⟨cur', h2⟩ := (h.ord i _ v (List.getElem?_eq_getElem hi) hv).block hk
  exact cells_ne h2 h1 (Ne.symm tne_in_int)
/-- A line's flag or number changes. -/
theorem CM.setL {W : World} {O : Nat → Prop} {B : Nat} {y : LY} {s : IS} (h : CM W O B y s) {i q : Nat} {l : IL} (hl : s.ls[i]? = some l) (hq : q = 2 ∨ q = 3) (u : Value) (l' : IL) (ho : l'.o = l.o) (hc : l'.ch = l.ch)
    (h2 : q = 2 ∧ u = .bool l'.p ∨ q ≠ 2 ∧ l'.p = l.p) (h3 : q = 3 ∧ u = .int .i64 l'.s ∨ q ≠ 3 ∧ l'.s = l.s) : CM (W.setCell ⟨y.b, i * 4 + q, none⟩ u) O B y { s with ls := s.ls.set i l' } := by
  have hil := (List.getElem?_eq_some_iff.1 hl).1
  obtain ⟨v0, hv⟩ : ∃ v, y.vs[i]? = some v := ⟨_, List.getElem?_eq_getElem (by rw [h.len]; exact hil)⟩
  have hf : Fr (fun k => k = y.b) W (W.setCell ⟨y.b, i * 4 + q, none⟩ u) := Fr.set _ _ _ _ rfl
  obtain ⟨n1, n2, n3, n4, n5⟩ := h.line_ne
  have hL := h.lines.put hl hv (by omega) u l' v0 (.inr ⟨by omega, hc⟩) (.inr ⟨by omega, rfl⟩) h2 h3
  rw [WideElems.set_self _ _ _ hv] at hL
  refine ⟨?_, hL, by rw [h.len]; simp, fun j m v hm hv' => ?_, h.apart, h.ma.fr hf n2, h.mc.fr hf n3, h.mt.fr hf n4, h.ac, h.at_, h.ct, h.oB, h.ob, h.oa, h.oc, h.ot, h.ov, fun k hk => Nat.lt_of_lt_of_le (h.top k hk) hf.size⟩
  · have := h.row.fr hf n1
    simpa using this
  · by_cases e : j = i
    · subst e
      have hm : (s.ls.set j l')[j]? = some m := hm
      rw [List.getElem?_set_self hil] at hm
      cases hm
      rw [ho]
      exact own_fr2 (h.ord j l v hl hv') hf (fun k hk => n5 j v k hv' hk)
    · have hm : (s.ls.set i l')[j]? = some m := hm
      rw [List.getElem?_set_ne (fun e2 => e e2.symm)] at hm
      exact own_fr2 (h.ord j m v hm hv') hf (fun k hk => n5 j v k hv' hk)
theorem ismade_nil (W : World) : Calls Try.prog 50 #[.pointer none] W fun e w' => e = .returned (.bool false) ∧ W = w' := by
  go_enter Try.func50, Try.ntmps50
  go_wp2
  go_ret
  exact ⟨rfl, rfl⟩
set_option maxRecDepth 100000 in
theorem ismade_ok {W : World} {O : Nat → Prop} {B : Nat} {y : LY} {s : IS} (h : CM W O B y s) (h0 : 0 < s.ls.length) : Calls Try.prog 50 #[.pointer (some ⟨B, 0, none⟩)] W fun e w' => e = .returned (.bool true) ∧ W = w' := by
  have c0 : W.cell? ⟨B, 0, none⟩ = some (.slice (some ⟨y.b, 0, none⟩) s.ls.length y.cap) := h.row.cell 0
  have HP := Lib.hid h0
  clear h h0
  go_enter Try.func50, Try.ntmps50
  go_wp2
  go_ret
  exact ⟨by have := HP.out; simp; omega, rfl⟩
theorem check_nil (x : Int) (W : World) : Calls Try.prog 39 #[.pointer none, .int .i64 x] W fun e w' => e = .returned (.int .i64 35) ∧ W = w' := by
  go_enter Try.func39, Try.ntmps39
  go_wp2_with (go_at_call 50; refine (ismade_nil _).mono ?_; rintro e w2 ⟨rfl, f2⟩; subst f2)
  go_ret
  exact ⟨rfl, rfl⟩
/-- The error of a line's number. -/
def ckL (n : Nat) (x : Int) : Int := if 0 ≤ x ∧ x < n then 0 else 34
set_option maxRecDepth 100000 in
theorem check_any {W : World} {O : Nat → Prop} {B : Nat} {y : LY} {s : IS} (h : CM W O B y s) (h0 : 0 < s.ls.length) (x : Int) : Calls Try.prog 39 #[.pointer (some ⟨B, 0, none⟩), .int .i64 x] W fun e w' => e = .returned (.int .i64 (ckL s.ls.length x)) ∧ W = w' := by
  have c0 : W.cell? ⟨B, 0, none⟩ = some (.slice (some ⟨y.b, 0, none⟩) s.ls.length y.cap) := h.row.cell 0
  have HM := Lib.hid (ismade_ok h h0)
  clear h h0
  by_cases h1 : x < 0
  · have HV : Hid (ckL s.ls.length x = 34) := by show _ = _; unfold ckL; rw [if_neg (by omega)]
    have d1 : decide (x < 0) = true := by simpa using h1
    rw [HV.out]
    clear h1
    go_enter Try.func39, Try.ntmps39
    go_wp2_with (go_at_call 50; refine HM.out.mono ?_; rintro e w2 ⟨rfl, f2⟩; subst f2)
    go_ret
    exact ⟨rfl, rfl⟩
  have d1 : decide (x < 0) = false := by simpa using h1
  by_cases h2 : ((s.ls.length : Nat) : Int) ≤ x
  · have HV : Hid (ckL s.ls.length x = 34) := by show _ = _; unfold ckL; rw [if_neg (by omega)]
    have d2 : decide (((s.ls.length : Nat) : Int) ≤ x) = true := by simpa using h2
    rw [HV.out]
    clear h1 h2
    go_enter Try.func39, Try.ntmps39
    go_wp2_with (go_at_call 50; refine HM.out.mono ?_; rintro e w2 ⟨rfl, f2⟩; subst f2)
    go_ret
    exact ⟨rfl, rfl⟩
  have HV : Hid (ckL s.ls.length x = 0) := by show _ = _; unfold ckL; rw [if_pos (by omega)]
  have d2 : decide (((s.ls.length : Nat) : Int) ≤ x) = false := by simp; omega
  rw [HV.out]
  clear h1 h2
  go_enter Try.func39, Try.ntmps39
  go_wp2_with (go_at_call 50; refine HM.out.mono ?_; rintro e w2 ⟨rfl, f2⟩; subst f2)
  go_ret
  exact ⟨rfl, rfl⟩
/-- Is it a thread? -/
def isTh (x : Int) : Bool := decide (0 ≤ x) && decide (x < 256)
theorem isTh_iff (x : Int) : isTh x = true ↔ 0 ≤ x ∧ x < 256 := by simp [isTh]
theorem isthread_any (x : Int) (W : World) : Calls Try.prog 51 #[.int .i64 x] W fun e w' => e = .returned (.bool (isTh x)) ∧ W = w' := by
  by_cases hp : 0 ≤ x
  · have HV : Hid (isTh x = decide (x < 256)) := by show _ = _; simp [isTh, hp]
    go_enter Try.func51, Try.ntmps51
    go_wp2
    go_ret
    exact ⟨by rw [HV.out] <;> rfl, rfl⟩
  · have HV : Hid (isTh x = false) := by show _ = _; simp [isTh, hp]
    have h2 : decide (0 ≤ x) = false := by simpa using hp
    go_enter Try.func51, Try.ntmps51
    go_wp2
    go_ret
    exact ⟨by rw [HV.out] <;> rfl, rfl⟩
end Go.Proofs.Ytbnchmhhhildnaa
