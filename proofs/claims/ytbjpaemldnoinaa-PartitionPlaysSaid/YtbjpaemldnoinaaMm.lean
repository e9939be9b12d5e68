/- Values that came in: a call, a configuration, calls, bytes. -/
import Derived.Test.YtbjpaemldnoinaaMj
import Derived.Test.YtbjpaemldnoinaaRows
import Derived.ProofKit
import Derived.OpenShut
import Derived.ChangeOld
import Derived.Below
import Derived.SizedLaws
import Derived.Deep.Slices
import Derived.Deep.SlicePairs
import Derived.Deep.Fields
import Derived.Lib.SmallJoins
namespace Go.Proofs.Ytbjpaemldnoinaa
open Go.ChangeShapes Go.WideShapes Go.ChangeAt Go.RowKit Go.Deep Go.Joins
set_option linter.unusedVariables false

theorem own : ownKnob Try.prog.godebug = none := by kernel_rfl
theorem laidOut : laidOutB Try.prog = true := by kernel_rfl
theorem cellsAct : Try.prog.cellsOf 56 = 6 := by kernel_rfl
theorem cellsCfg : Try.prog.cellsOf 40 = 3 := by kernel_rfl
theorem cellsPart : Try.prog.cellsOf 92 = 2 := by kernel_rfl
theorem cellsParts : Try.prog.cellsOf 38 = 1 := by kernel_rfl
theorem cellsU8 : Try.prog.cellsOf 5 = 1 := by kernel_rfl
theorem cellsInt : Try.prog.cellsOf 3 = 1 := by kernel_rfl
theorem cellsI64 : Try.prog.cellsOf 2 = 1 := by kernel_rfl
theorem cellsBool : Try.prog.cellsOf 4 = 1 := by kernel_rfl
/-- A call as it came in. -/
structure ActP where
  d : Int
  g : Int
  r : Int
  a : Int
  b : Int
  c : Bool
instance : Inhabited ActP := ⟨⟨0, 0, 0, 0, 0, false⟩⟩
def actP (x : ActP) : List Value := [.int .u8 x.d, .int .u8 x.g, .int .i64 x.r, .int .i64 x.a, .int .i64 x.b, .bool x.c]
def ActOk (x : ActP) : Prop := 0 ≤ x.d ∧ x.d < 256 ∧ 0 ≤ x.g ∧ x.g < 256

set_option maxRecDepth 100000 in
theorem open_actM {H : Type} {enc : TypeId × Value → H} {w : World} {base b0 : Nat} {spare : Nat → Bool} {held : Bool} {r : Reach} {v : Value} {d : DataW H} {p : List MemPlace}
    (hv : Value.okWide Try.prog w r b0 56 v) (h : DataW.Trod enc Try.prog w base spare held 56 v d p) : ∃ x : ActP, v = .agg (actP x).toArray ∧ ActOk x := by
  obtain ⟨cs, rfl, hsz⟩ := okWide_struct Try.underlying56 hv
  rw [cellsAct] at hsz
  obtain ⟨fuel, hf⟩ := h
  obtain ⟨xs, n, _, _, hlen, hxs, hfs⟩ := DataW.trod_struct Try.underlying56 hf
  have hxl : xs.length = 6 := hxs
  have e0 : DataW.trod enc Try.prog w base spare held n 5 ((cs.toList.drop 0).take (Try.prog.cellsOf 5)) = xs[0]? := hfs 0 _ rfl
  have e1 : DataW.trod enc Try.prog w base spare held n 5 ((cs.toList.drop 1).take (Try.prog.cellsOf 5)) = xs[1]? := hfs 1 _ rfl
  have e2 : DataW.trod enc Try.prog w base spare held n 2 ((cs.toList.drop 2).take (Try.prog.cellsOf 2)) = xs[2]? := hfs 2 _ rfl
  have e3 : DataW.trod enc Try.prog w base spare held n 3 ((cs.toList.drop 3).take (Try.prog.cellsOf 3)) = xs[3]? := hfs 3 _ rfl
  have e4 : DataW.trod enc Try.prog w base spare held n 3 ((cs.toList.drop 4).take (Try.prog.cellsOf 3)) = xs[4]? := hfs 4 _ rfl
  have e5 : DataW.trod enc Try.prog w base spare held n 4 ((cs.toList.drop 5).take (Try.prog.cellsOf 4)) = xs[5]? := hfs 5 _ rfl
  rw [List.getElem?_eq_getElem (by omega), cellsU8] at e0 e1
  rw [List.getElem?_eq_getElem (by omega), cellsI64] at e2
  rw [List.getElem?_eq_getElem (by omega), cellsInt] at e3 e4
  rw [List.getElem?_eq_getElem (by omega), cellsBool] at e5
  obtain ⟨x0, f0, _, hz0⟩ := DataW.trod_int Try.underlying5 e0
  obtain ⟨x1, f1, _, hz1⟩ := DataW.trod_int Try.underlying5 e1
  obtain ⟨x2, f2, _, _⟩ := DataW.trod_int Try.underlying2 e2
  obtain ⟨x3, f3, _, _⟩ := DataW.trod_int Try.underlying3 e3
  obtain ⟨x4, f4, _, _⟩ := DataW.trod_int Try.underlying3 e4
  obtain ⟨x5, f5, _⟩ := DataW.trod_bool Try.underlying4 e5
  have e : IntKind.u8.min = 0 := rfl
  have e2 : IntKind.u8.max = 255 := rfl
  simp [Lit.wf] at hz0 hz1
  obtain ⟨L⟩ := cs
  match L, hsz with
  | [u0, u1, u2, u3, u4, u5], hsz =>
    simp at f0 f1 f2 f3 f4 f5
    exact ⟨⟨x0, x1, x2, x3, x4, x5⟩, by rw [f0, f1, f2, f3, f4, f5]; rfl, by show 0 ≤ x0; omega, by show x0 < 256; omega, by show 0 ≤ x1; omega, by show x1 < 256; omega⟩
set_option maxRecDepth 100000 in
/-- Parts that came in. -/
theorem open_parts {H : Type} {enc : TypeId × Value → H} {w : World} {base : Nat} {spare : Nat → Bool} {held : Bool} {fuel : Nat} {cs : List Value} {x : DataW H × List MemPlace}
    (hf : DataW.trod enc Try.prog w base spare held fuel 38 cs = some x) : ∃ (a : Option Addr) (P : List (Int × Int)) (cap : Nat), cs = [.slice a P.length cap] ∧ PartsIn w a P := by
  rcases open_slice_pairs Try.underlying38 Try.underlying92 cellsPart rfl rfl cellsInt cellsInt hf with ⟨hcs, hx⟩ | ⟨a', len, cap', m, n, V0, V1, D0, D1, P0, P1, hcs, hb, hl, hm, hmm, hx, hi⟩
  · exact ⟨none, [], 0, hcs, .inl rfl⟩
  · by_cases hn : len = 0
    · subst hn
      exact ⟨some a', [], cap', hcs, .inl rfl⟩
    have hlm : len ≤ m := by rw [hmm]; split <;> omega
    have hone : ∀ i, i < len → ∃ q : Int × Int, w.cell? (a'.add (i * 2)) = some (.int .i64 q.1) ∧ w.cell? (a'.add (i * 2 + 1)) = some (.int .i64 q.2) := fun i hin => by
      obtain ⟨h0, h1, t0, t1⟩ := hi i (by omega)
      obtain ⟨x0, f0, _, _⟩ := DataW.trod_int Try.underlying3 t0
      obtain ⟨x1, f1, _, _⟩ := DataW.trod_int Try.underlying3 t1
      simp at f0 f1
      exact ⟨(x0, x1), by rw [h0, f0], by rw [h1, f1]⟩
    obtain ⟨V, hV⟩ := choose_lt hone
    obtain ⟨b, off, spot⟩ := a'
    have hs : spot = none := by
      have := World.cell?_spot (hV 0 (by omega)).1
      simpa [Addr.add] using this
    subst hs
    have hlen : ((List.range len).map V).length = len := by simp
    refine ⟨some ⟨b, off, none⟩, (List.range len).map V, cap', by rw [hlen]; exact hcs, .inr ⟨b, off, rfl, ?_, fun i x hx => ?_⟩⟩
    · have := World.block_lt_of_cell? w _ (hV 0 (by omega)).1
      simpa [Addr.add] using this
    · have hin : i < len := by
        have := (List.getElem?_eq_some_iff.1 hx).1
        simpa using this
      have hxV : x = V i := by
        rw [List.getElem?_map, List.getElem?_range hin] at hx
        simpa using hx.symm
      subst hxV
      have := hV i hin
      rw [Addr.add_mid, Addr.add_mid] at this
      rw [← Nat.add_assoc] at this
      exact this
set_option maxRecDepth 100000 in
theorem open_cfg {H : Type} {enc : TypeId × Value → H} {w : World} {base b0 : Nat} {spare : Nat → Bool} {held : Bool} {r : Reach} {v : Value} {d : DataW H} {p : List MemPlace}
    (hv : Value.okWide Try.prog w r b0 40 v) (h : DataW.Trod enc Try.prog w base spare held 40 v d p) : ∃ (win pr : Int) (a : Option Addr) (P : List (Int × Int)) (cap : Nat), v = .agg #[.int .i64 win, .int .i64 pr, .slice a P.length cap] ∧ PartsIn w a P := by
  obtain ⟨cs, rfl, hsz⟩ := okWide_struct Try.underlying40 hv
  rw [cellsCfg] at hsz
  obtain ⟨fuel, hf⟩ := h
  obtain ⟨xs, n, _, _, hlen, hxs, hfs⟩ := DataW.trod_struct Try.underlying40 hf
  have hxl : xs.length = 3 := hxs
  have e0 : DataW.trod enc Try.prog w base spare held n 3 ((cs.toList.drop 0).take (Try.prog.cellsOf 3)) = xs[0]? := hfs 0 _ rfl
  have e1 : DataW.trod enc Try.prog w base spare held n 3 ((cs.toList.drop 1).take (Try.prog.cellsOf 3)) = xs[1]? := hfs 1 _ rfl
  have e2 : DataW.trod enc Try.prog w base spare held n 38 ((cs.toList.drop 2).take (Try.prog.cellsOf 38)) = xs[2]? := hfs 2 _ rfl
  rw [List.getElem?_eq_getElem (by omega), cellsInt] at e0 e1
  rw [List.getElem?_eq_getElem (by omega), cellsParts] at e2
  obtain ⟨x0, f0, _, _⟩ := DataW.trod_int Try.underlying3 e0
  obtain ⟨x1, f1, _, _⟩ := DataW.trod_int Try.underlying3 e1
  obtain ⟨a, P, cap, f2, hP⟩ := open_parts e2
  obtain ⟨L⟩ := cs
  match L, hsz with
  | [u0, u1, u2], hsz =>
    simp at f0 f1 f2
    exact ⟨x0, x1, a, P, cap, by rw [f0, f1, f2], hP⟩

/-- Bytes that came in. -/
def BytesIn (w : World) (a : Option Addr) (gs : List Int) : Prop := (∀ z ∈ gs, 0 ≤ z ∧ z < 256) ∧ (gs = [] ∨ ∃ b off, a = some ⟨b, off, none⟩ ∧ b < w.heap.size ∧ ∀ i z, gs[i]? = some z → w.cell? ⟨b, off + i, none⟩ = some (.int .u8 z))
theorem BytesIn.get {w w2 : World} {a : Option Addr} {gs : List Int} {i : Nat} (h : BytesIn w a gs) (hb : Fr (fun _ => False) w w2) (hi : i < gs.length) : ∃ b off z, a = some ⟨b, off, none⟩ ∧ gs[i]? = some z ∧ w2.cell? ⟨b, off + i, none⟩ = some (.int .u8 z) ∧ 0 ≤ z ∧ z < 256 := by
  have hx : gs[i]? = some gs[i] := List.getElem?_eq_getElem hi
  rcases h.2 with h' | ⟨b, off, rfl, hlt, h'⟩
  · rw [h'] at hi; cases hi
  · exact ⟨b, off, _, rfl, hx, (World.cell?_of_block (hb.block b hlt id)).trans (h' i _ hx), h.1 _ (List.getElem_mem hi)⟩
set_option maxRecDepth 100000 in
theorem open_bytes {H : Type} {enc : TypeId × Value → H} {w : World} {base : Nat} {spare : Nat → Bool} {held : Bool} {a : Option Addr} {n cap : Nat} {d : DataW H} {p : List MemPlace}
    (h : DataW.Trod enc Try.prog w base spare held 61 (.slice a n cap) d p) : ∃ gs : List Int, gs.length = n ∧ BytesIn w a gs := by
  obtain ⟨fuel, hf⟩ := h
  rcases Go.ChangeShapes.open_ints Try.underlying61 Try.underlying5 cellsU8 hf with ⟨hcs, hx⟩ | ⟨a', len, cap', zs, hcs, _, hl, hm, hz, hx, hcell, hwz⟩
  · simp [Value.cells] at hcs
    exact ⟨[], hcs.2.1.symm, by simp, .inl rfl⟩
  · simp [Value.cells] at hcs
    obtain ⟨rfl, rfl, rfl⟩ := hcs
    have hlm : n ≤ zs.length := by rw [hz]; split <;> omega
    by_cases hn : n = 0
    · exact ⟨[], hn.symm, by simp, .inl rfl⟩
    obtain ⟨b, off, spot⟩ := a'
    have hs : spot = none := by
      have := World.cell?_spot (hcell 0 (by omega))
      simpa [Addr.add] using this
    subst hs
    refine ⟨zs.take n, by simp; omega, fun z hz => ?_, .inr ⟨b, off, rfl, ?_, fun i z hi => ?_⟩⟩
    · have hw := hwz z (List.mem_of_mem_take hz)
      have e : IntKind.u8.min = 0 := rfl
      have e2 : IntKind.u8.max = 255 := rfl
      simp [Lit.wf] at hw
      omega
    · have := World.block_lt_of_cell? w _ (hcell 0 (by omega))
      simpa [Addr.add] using this
    · have hin : i < n := by
        have := (List.getElem?_eq_some_iff.1 hi).1
        simp at this; omega
      have h1 : zs[i]? = some z := by rw [List.getElem?_take, if_pos hin] at hi; exact hi
      have h2 := hcell i (by omega)
      rw [Addr.add_mid, List.getD_eq_getElem?_getD, h1] at h2
      exact h2
/-- How calls came in. -/
def ActsP (w : World) (a : Option Addr) (A : List ActP) : Prop := (∀ x ∈ A, ActOk x) ∧ (A = [] ∨ ∃ b off, a = some ⟨b, off, none⟩ ∧ b < w.heap.size ∧ ∀ i x, A[i]? = some x → w.rangeAt b (off + i * 6) (actP x))
theorem ActsP.get {w w2 : World} {a : Option Addr} {A : List ActP} {i : Nat} (h : ActsP w a A) (hb : Fr (fun _ => False) w w2) (hi : i < A.length) : ∃ b off x, a = some ⟨b, off, none⟩ ∧ A[i]? = some x ∧ w2.rangeAt b (off + i * 6) (actP x) ∧ ActOk x := by
  have hx : A[i]? = some A[i] := List.getElem?_eq_getElem hi
  rcases h.2 with h' | ⟨b, off, rfl, hlt, h'⟩
  · rw [h'] at hi; cases hi
  · exact ⟨b, off, _, rfl, hx, fun j v hv => (World.cell?_of_block (hb.block b hlt id)).trans (h' i _ hx j v hv), h.1 _ (List.getElem_mem hi)⟩
set_option maxRecDepth 100000 in
theorem open_actsP {H : Type} {enc : TypeId × Value → H} {w : World} {base : Nat} {spare : Nat → Bool} {held : Bool} {a : Option Addr} {n cap : Nat} {d : DataW H} {p : List MemPlace}
    (h : DataW.Trod enc Try.prog w base spare held 41 (.slice a n cap) d p) : ∃ A : List ActP, A.length = n ∧ ActsP w a A := by
  obtain ⟨fuel, hf⟩ := h
  rcases open_slice Try.underlying41 hf with ⟨hcs, hx⟩ | ⟨a', len, cap', m, k, D, Pl, hcs, hb, hl, hm, hmm, hx, hi⟩
  · simp [Value.cells] at hcs
    exact ⟨[], hcs.2.1.symm, by simp, .inl rfl⟩
  · simp [Value.cells] at hcs
    obtain ⟨rfl, rfl, rfl⟩ := hcs
    by_cases hn : n = 0
    · exact ⟨[], hn.symm, by simp, .inl rfl⟩
    have hlm : n ≤ m := by rw [hmm]; split <;> omega
    have hone : ∀ i, i < n → ∃ x : ActP, w.cell? (a'.add (i * 6 + 0)) = some (.int .u8 x.d) ∧ w.cell? (a'.add (i * 6 + 1)) = some (.int .u8 x.g) ∧ w.cell? (a'.add (i * 6 + 2)) = some (.int .i64 x.r) ∧ w.cell? (a'.add (i * 6 + 3)) = some (.int .i64 x.a) ∧ w.cell? (a'.add (i * 6 + 4)) = some (.int .i64 x.b) ∧ w.cell? (a'.add (i * 6 + 5)) = some (.bool x.c) ∧ ActOk x := fun i hin => by
      obtain ⟨cs', hc, ht⟩ := hi i (by omega)
      rw [cellsAct] at hc
      obtain ⟨_, hcl, hat⟩ := World.cells?_some hc
      obtain ⟨xs, q, _, _, _, hxs, hfs⟩ := DataW.trod_struct Try.underlying56 ht
      have hxl : xs.length = 6 := hxs
      have e0 : DataW.trod enc Try.prog w base spare held q 5 ((cs'.drop 0).take (Try.prog.cellsOf 5)) = xs[0]? := hfs 0 _ rfl
      have e1 : DataW.trod enc Try.prog w base spare held q 5 ((cs'.drop 1).take (Try.prog.cellsOf 5)) = xs[1]? := hfs 1 _ rfl
      have e2 : DataW.trod enc Try.prog w base spare held q 2 ((cs'.drop 2).take (Try.prog.cellsOf 2)) = xs[2]? := hfs 2 _ rfl
      have e3 : DataW.trod enc Try.prog w base spare held q 3 ((cs'.drop 3).take (Try.prog.cellsOf 3)) = xs[3]? := hfs 3 _ rfl
      have e4 : DataW.trod enc Try.prog w base spare held q 3 ((cs'.drop 4).take (Try.prog.cellsOf 3)) = xs[4]? := hfs 4 _ rfl
      have e5 : DataW.trod enc Try.prog w base spare held q 4 ((cs'.drop 5).take (Try.prog.cellsOf 4)) = xs[5]? := hfs 5 _ rfl
      rw [List.getElem?_eq_getElem (by omega), cellsU8] at e0 e1
      rw [List.getElem?_eq_getElem (by omega), cellsI64] at e2
      rw [List.getElem?_eq_getElem (by omega), cellsInt] at e3 e4
      rw [List.getElem?_eq_getElem (by omega), cellsBool] at e5
      obtain ⟨x0, f0, _, hz0⟩ := DataW.trod_int Try.underlying5 e0
      obtain ⟨x1, f1, _, hz1⟩ := DataW.trod_int Try.underlying5 e1
      obtain ⟨x2, f2, _, _⟩ := DataW.trod_int Try.underlying2 e2
      obtain ⟨x3, f3, _, _⟩ := DataW.trod_int Try.underlying3 e3
      obtain ⟨x4, f4, _, _⟩ := DataW.trod_int Try.underlying3 e4
      obtain ⟨x5, f5, _⟩ := DataW.trod_bool Try.underlying4 e5
      have e : IntKind.u8.min = 0 := rfl
      have e2 : IntKind.u8.max = 255 := rfl
      simp [Lit.wf] at hz0 hz1
      match cs', hcl with
      | [u0, u1, u2, u3, u4, u5], _ =>
        simp at f0 f1 f2 f3 f4 f5
        subst f0 f1 f2 f3 f4 f5
        have a0 := hat 0 (by omega)
        have a1 := hat 1 (by omega)
        have a2 := hat 2 (by omega)
        have a3 := hat 3 (by omega)
        have a4 := hat 4 (by omega)
        have a5 := hat 5 (by omega)
        rw [Go.Deep.add_add] at a0 a1 a2 a3 a4 a5
        exact ⟨⟨x0, x1, x2, x3, x4, x5⟩, a0, a1, a2, a3, a4, a5, by show 0 ≤ x0; omega, by show x0 < 256; omega, by show 0 ≤ x1; omega, by show x1 < 256; omega⟩
    obtain ⟨V, hV⟩ := choose_lt hone
    obtain ⟨b, off, spot⟩ := a'
    have hs : spot = none := by
      have := World.cell?_spot (hV 0 (by omega)).1
      simpa [Addr.add] using this
    subst hs
    refine ⟨(List.range n).map V, by simp, fun x hx => ?_, .inr ⟨b, off, rfl, ?_, fun i x hx => ?_⟩⟩
    · obtain ⟨i, hi, rfl⟩ := List.mem_map.1 hx
      exact (hV i (List.mem_range.1 hi)).2.2.2.2.2.2
    · have := World.block_lt_of_cell? w _ (hV 0 (by omega)).1
      simpa [Addr.add] using this
    · have hin : i < n := by
        have := (List.getElem?_eq_some_iff.1 hx).1
        simpa using this
      have hxV : x = V i := by
        rw [List.getElem?_map, List.getElem?_range hin] at hx
        simpa using hx.symm
      subst hxV
      have := hV i hin
      rw [Addr.add_mid, Addr.add_mid, Addr.add_mid, Addr.add_mid, Addr.add_mid, Addr.add_mid] at this
      obtain ⟨h0, h1, h2, h3, h4, h5, _⟩ := this
      rw [← Nat.add_assoc] at h0 h1 h2 h3 h4 h5
      intro j v hj
      match j, hj with
      | 0, hj => cases hj; exact h0
      | 1, hj => cases hj; exact h1
      | 2, hj => cases hj; exact h2
      | 3, hj => cases hj; exact h3
      | 4, hj => cases hj; exact h4
      | 5, hj => cases hj; exact h5
theorem fr_below {W W' : World} (h : Fr (fun _ => False) W W') : Below W.heap.size W W' := h.toBelow fun _ _ => id
end Go.Proofs.Ytbjpaemldnoinaa
