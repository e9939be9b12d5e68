/- Package sched: processors of a mask; the seat of a thread. -/
import Derived.Test.YtjaaljcdaamcjaaGreatDq
namespace Go.Proofs.YtjaaljcdaamcjaaGreat
open Go.RowKit Go.Proofs.YtjaaljcdaamcjaaGreat.Pa
set_option linter.unusedVariables false

/-- Whether a mask has a processor. -/
def hpB (m : Int) (p : Nat) : Bool := bits .and .i64 (m / 2 ^ p) 1 == 1
theorem hasproc_any (m : Int) (p : Nat) (hm : 0 ≤ m ∧ m < 256) (hp : p < 8) (w : World) : Calls Tryz.prog 49 #[.int .i64 m, .int .i64 (p : Int)] w fun e w' => e = .returned (.bool (hpB m p)) ∧ w = w' := by
  obtain ⟨m0, m1⟩ := hm
  have p0 : (0 : Int) ≤ p := by omega
  have p1 : (p : Int) < 8 := by omega
  go_enter Tryz.func49, Tryz.ntmps49
  go_wp2
  go_ret
  exact ⟨rfl, rfl⟩
/-- A list of numbers in memory. -/
def NumsAt (W : World) (b off : Nat) (l : List Int) : Prop := b < W.heap.size ∧ ∀ i x, l[i]? = some x → W.cell? ⟨b, off + i, none⟩ = some (.int .i64 x)
theorem NumsAt.fr {W W' : World} {b off : Nat} {l : List Int} {X : Nat → Prop} (h : NumsAt W b off l) (hf : Fr X W W') (hne : ¬ X b) : NumsAt W' b off l := ⟨Nat.lt_of_lt_of_le h.1 hf.size, fun i x hx => by rw [World.cell?_of_block (hf.block b h.1 hne)]; exact h.2 i x hx⟩
set_option maxRecDepth 100000 in
theorem index_no (W : World) (b off cap : Nat) (l : List Int) (x : Int) (h : NumsAt W b off l) (hx : x ∉ l) (hl : l.length ≤ 65536) : Calls Tryz.prog 131 #[.slice (some ⟨b, off, none⟩) l.length cap, .int .i64 x] W fun e w' => e = .returned (.int .i64 (-1)) ∧ W = w' := by
  have H := Lib.hid h
  have HX := Lib.hid hx
  have l0 : (l.length : Int) ≤ 65536 := by omega
  clear h hx hl
  go_enter Tryz.func131, Tryz.ntmps131
  go_wp2
  go_loopw [8] (fun vi wr => ∃ i : Nat, vi = .int .i64 (i : Int) ∧ (i : Int) ≤ l.length ∧ Hid (wr = W)) (fun vi _ => l.length - (intOf vi).toNat)
  case atStart => exact ⟨0, rfl, by omega, rfl⟩
  case round =>
    obtain ⟨i, rfl, i1, HI⟩ := hrel
    have hW := HI.out
    subst hW
    have i0 : (0 : Int) ≤ i := by omega
    by_cases hlt : (i : Int) < l.length
    · have HMS : Hid (l.length - (intOf (Value.int IntKind.i64 ((i : Int) + 1))).toNat < l.length - (intOf (Value.int IntKind.i64 (i : Int))).toNat) := by
        show _ < _
        simp only [intOf]
        omega
      have hin : i < l.length := by omega
      have c0 : wr.cell? ⟨b, off + i, none⟩ = some (.int .i64 l[i]) := H.out.2 i _ (List.getElem?_eq_getElem hin)
      have hne : ¬ (x = l[i]) := fun e => HX.out (e ▸ List.getElem_mem hin)
      generalize l[i] = y at c0 hne
      have g0 : (x == y) = false := by simpa using hne
      clear hin hne
      go_wp2
      go_roundw
      case rel => exact ⟨i + 1, by push_cast; rfl, by push_cast; omega, trivial⟩
      case measure => exact HMS.out
    · clear i1
      go_wp2
      go_ret
      exact ⟨rfl, rfl⟩
theorem contains_no (W : World) (b off cap : Nat) (l : List Int) (x : Int) (h : NumsAt W b off l) (hx : x ∉ l) (hl : l.length ≤ 65536) : Calls Tryz.prog 94 #[.slice (some ⟨b, off, none⟩) l.length cap, .int .i64 x] W fun e w' => e = .returned (.bool false) ∧ W = w' := by
  have H := Lib.hid (index_no W b off cap l x h hx hl)
  go_enter Tryz.func94, Tryz.ntmps94
  go_wp2_with (go_at_call 131; refine H.out.mono ?_; rintro e w2 ⟨rfl, f2⟩; subst f2)
  go_ret
  exact ⟨rfl, rfl⟩
/-- Whether a processor is free for a mask. -/
def freeB (sts : List Int) (m : Int) (p : Nat) : Bool := (sts.getD p 0 == -1) && hpB m p
def firstFree (sts : List Int) (m : Int) : Nat → Nat → Option Nat
  | 0, _ => none
  | f + 1, p => if freeB sts m p = true then some p else firstFree sts m f (p + 1)
theorem seatcl_any (W : World) (x y sb cap : Nat) (sts : List Int) (num last m : Int) (hx : RowAt W x 136 #[.int .i64 num, .int .i64 last, .int .i64 m]) (hy : RowAt W y 42 #[.slice (some ⟨sb, 0, none⟩) sts.length cap]) (hs : NumsAt W sb 0 sts) (hm : 0 ≤ m ∧ m < 256) (hl : sts.length ≤ 8) (p : Nat) (hp : p < sts.length) :
    Calls Tryz.prog 132 #[.int .i64 (p : Int), .pointer (some ⟨y, 0, none⟩), .pointer (some ⟨x, 0, none⟩)] W fun e w' => e = .returned (.bool (freeB sts m p)) ∧ W = w' := by
  have HH := Lib.hid (hasproc_any m p hm (by omega))
  have c0 : W.cell? ⟨y, 0, none⟩ = some (.slice (some ⟨sb, 0, none⟩) sts.length cap) := hy.cell 0
  have c1 : W.cell? ⟨sb, p, none⟩ = some (.int .i64 sts[p]) := by have := hs.2 p _ (List.getElem?_eq_getElem hp); rw [Nat.zero_add] at this; exact this
  have c2 : W.cell? ⟨x, 2, none⟩ = some (.int .i64 m) := hx.cell 2
  have HG : Hid (freeB sts m p = ((sts[p] == -1) && hpB m p)) := by show _ = _; unfold freeB; rw [List.getD_eq_getElem?_getD, List.getElem?_eq_getElem hp]; rfl
  have p0 : (0 : Int) ≤ p := by omega
  have p1 : (p : Int) < sts.length := by omega
  generalize sts[p] = v at c1 HG
  rw [HG.out]
  generalize hpB m p = g at HH ⊢
  generalize sts.length = len at c0 p1
  clear hx hy hs hm hl hp HG
  by_cases hv : v = -1
  · subst hv
    go_enter Tryz.func132, Tryz.ntmps132
    go_wp2_with (go_at_call 49; refine (HH.out _).mono ?_; rintro e w2 ⟨rfl, f2⟩; subst f2)
    go_ret
    exact ⟨by simp, rfl⟩
  · have hv' : (v == -1) = false := by simpa using hv
    go_enter Tryz.func132, Tryz.ntmps132
    go_wp2_with (go_at_call 49; refine (HH.out _).mono ?_; rintro e w2 ⟨rfl, f2⟩; subst f2)
    go_ret
    exact ⟨by simp [hv'], rfl⟩
/-- The seat of a thread that did not run yet. -/
def resV (o : Option Nat) : Value := match o with | some p => .tuple #[.int .i64 (p : Int), .bool true] | none => .tuple #[.int .i64 0, .bool false]
theorem first_end (sts : List Int) (m : Int) (f p : Nat) (h : freeB sts m p = true) : firstFree sts m (f + 1) p = some p := by rw [firstFree, if_pos h]
theorem first_next (sts : List Int) (m : Int) (f p : Nat) (h : freeB sts m p = false) : firstFree sts m (f + 1) p = firstFree sts m f (p + 1) := by rw [firstFree, if_neg (by rw [h]; decide)]
set_option maxRecDepth 100000 in
set_option maxHeartbeats 2000000 in
theorem seatfor_new (W : World) (sb cap : Nat) (sts : List Int) (num m : Int) (hs : NumsAt W sb 0 sts) (hm : 0 ≤ m ∧ m < 256) (hl : sts.length ≤ 8) :
    Calls Tryz.prog 96 #[.agg #[.int .i64 num, .int .i64 (-1), .int .i64 m], .slice (some ⟨sb, 0, none⟩) sts.length cap] W fun e w' => e = .returned (resV (firstFree sts m sts.length 0)) ∧ Fr Non W w' := by
  have HS := Lib.hid hs
  have HM := Lib.hid hm
  have HL := Lib.hid hl
  have hmf := hmf_any
  have l8 : (sts.length : Int) ≤ 8 := by omega
  clear hs hm hl
  go_enter Tryz.func96, Tryz.ntmps96
  go_upto_region 1 with (fail)
  have HF1 : Hid (Fr Non W ((W.alloc (.cells #[.int .i64 num, .int .i64 (-1), .int .i64 m] 136)).alloc (.cells #[.slice (some ⟨sb, 0, none⟩) sts.length cap] 42))) := frA (frA (Fr.refl _ _))
  have HX1 : Hid (RowAt ((W.alloc (.cells #[.int .i64 num, .int .i64 (-1), .int .i64 m] 136)).alloc (.cells #[.slice (some ⟨sb, 0, none⟩) sts.length cap] 42)) W.heap.size 136 #[.int .i64 num, .int .i64 (-1), .int .i64 m]) := (RowAt.new W _ _).fr (Fr.alloc Non _ _) id
  have HY1 : Hid (RowAt ((W.alloc (.cells #[.int .i64 num, .int .i64 (-1), .int .i64 m] 136)).alloc (.cells #[.slice (some ⟨sb, 0, none⟩) sts.length cap] 42)) (W.heap.size + 1) 42 #[.slice (some ⟨sb, 0, none⟩) sts.length cap]) := by
    have := RowAt.new (W.alloc (.cells #[.int .i64 num, .int .i64 (-1), .int .i64 m] 136)) 42 #[.slice (some ⟨sb, 0, none⟩) sts.length cap]
    rw [show (W.alloc (.cells #[.int .i64 num, .int .i64 (-1), .int .i64 m] 136)).heap.size = W.heap.size + 1 from by simp] at this
    exact this
  generalize World.alloc (World.alloc W _) _ = W1 at HF1 HX1 HY1 ⊢
  generalize W.heap.size + 1 = y at HY1 ⊢
  generalize W.heap.size = x at HX1 ⊢
  have HS1 := Lib.hid (HS.out.fr HF1.out id)
  have c0 : W1.cell? ⟨x, 1, none⟩ = some (.int .i64 (-1)) := HX1.out.cell 1
  have c1 : W1.cell? ⟨y, 0, none⟩ = some (.slice (some ⟨sb, 0, none⟩) sts.length cap) := HY1.out.cell 0
  go_upto_region 5 with (fail)
  go_loopw [22] (fun vi wr => ∃ p : Nat, vi = .int .i64 (p : Int) ∧ (p : Int) ≤ sts.length ∧ Hid (firstFree sts m sts.length 0 = firstFree sts m (sts.length - p) p) ∧ Hid (Fr Non W1 wr)) (fun vi _ => sts.length - (intOf vi).toNat)
  case atStart => exact ⟨0, rfl, by omega, rfl, Fr.refl _ _⟩
  case round =>
    obtain ⟨p, rfl, i1, HI, HW⟩ := hrel
    have p0 : (0 : Int) ≤ p := by omega
    by_cases hlt : (p : Int) < sts.length
    · have HMS : Hid (sts.length - (intOf (Value.int IntKind.i64 ((p : Int) + 1))).toNat < sts.length - (intOf (Value.int IntKind.i64 (p : Int))).toNat) := by
        show _ < _
        simp only [intOf]
        omega
      have HCL := Lib.hid (seatcl_any wr x y sb cap sts num (-1) m (HX1.out.fr HW.out id) (HY1.out.fr HW.out id) (HS1.out.fr HW.out id) HM.out HL.out p (by omega))
      obtain ⟨f, hf⟩ : ∃ f, sts.length - p = f + 1 := ⟨sts.length - p - 1, by omega⟩
      have HFP : Hid (sts.length - (p + 1) = f) := by show _ = _; omega
      rw [hf] at HI
      clear hf
      cases hfr : freeB sts m p
      · have HN := Lib.hid (first_next sts m f p hfr)
        rw [hfr] at HCL
        clear hfr
        go_wp2_with (go_at_call 132; refine HCL.out.mono ?_; rintro e w2 ⟨rfl, f2⟩; subst f2)
        go_roundw
        case rel => exact ⟨p + 1, by push_cast; rfl, by push_cast; omega, by rw [HFP.out, HI.out]; exact HN.out, HW.out⟩
        case measure => exact HMS.out
      · have HN := Lib.hid (first_end sts m f p hfr)
        rw [hfr] at HCL
        clear hfr
        go_wp2_with (go_at_call 132; refine HCL.out.mono ?_; rintro e w2 ⟨rfl, f2⟩; subst f2)
        go_ret2
        exact ⟨by rw [HI.out, HN.out]; rfl, HF1.out.trans HW.out⟩
    · have HE : Hid (sts.length - p = 0) := by show _ = _; omega
      clear i1
      go_wp2
      go_ret2
      exact ⟨by rw [HI.out, HE.out]; rfl, HF1.out.trans HW.out⟩
end Go.Proofs.YtjaaljcdaamcjaaGreat
