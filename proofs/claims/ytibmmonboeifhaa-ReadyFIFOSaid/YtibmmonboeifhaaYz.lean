/- ReadyFIFO: the walk. -/
import Derived.Test.YtibmmonboeifhaaYy
namespace Go.Proofs.Ytibmmonboeifhaa
open Go.RowKit Go.Shelf
set_option linter.unusedVariables false

theorem fifo_long (a : Option Addr) (n cap : Nat) (hn : 60 < n) (c : Int) (w : World) : Calls Try.prog 4 #[.slice a n cap, .int .u8 c] w fun e w' => e = .returned (.bool true) ∧ w.grownBy w' none := by
  have h : (60 : Int) < n := by omega
  clear hn
  go_enter Try.func4, Try.ntmps4
  go_wp2_with (go_at_call 9; refine (awake_any _).mono ?_; rintro e w' ⟨rfl, g1⟩)
  go_ret
  exact ⟨rfl, g1⟩

/-- What holds at the head of a round of the adding loop. -/
def FifoI (w : World) (c : Nat) (v : Value) (W : World) : Prop :=
  ∃ ls mk, AW ls mk w W ∧ M255 mk ∧ W.ownsRow (w.heap.size + 1) 3 1 v (ls c).length (encI (ls c))
theorem FifoI.keep {w W W' : World} {c : Nat} {v : Value} (h : FifoI w c v W) (hg : W.grownBy W' none) : FifoI w c v W' := by
  obtain ⟨ls, mk, h1, h2, h3⟩ := h
  exact ⟨ls, mk, h1.none hg, h2, h3.kept hg (by cases v.ownBlock <;> simp)⟩
theorem own_not {w W : World} {v : Value} {n : Nat} {xs : List Value} (h : W.ownsRow (w.heap.size + 1) 3 1 v n xs) : v.ownBlock = none ∨ v.ownBlock ≠ some w.heap.size := by
  refine .inr fun e => ?_
  have := (h.lt _ e).1
  omega
theorem fifo_add1 {w W : World} {c : Nat} {v : Value} (h : FifoI w c v W) (t : Int) : (Calls Try.prog 18 #[.pointer (some ⟨w.heap.size, 0, none⟩), .int .i64 t, .int .i64 c, .int .i64 255, .bool false] W fun e W' => e = .returned (.int .i64 0) ∧ ∃ ls mk l, Hid (AW ls mk w W' ∧ M255 mk ∧ ls c = l ++ [t.toNat] ∧ t = t.toNat) ∧ W'.ownsRow (w.heap.size + 1) 3 1 v l.length (encI l) ∧ W.grownBy W' (some w.heap.size)) ∨
    ∃ z : Int, (z == 0) = false ∧ Calls Try.prog 18 #[.pointer (some ⟨w.heap.size, 0, none⟩), .int .i64 t, .int .i64 c, .int .i64 255, .bool false] W fun e W' => e = .returned (.int .i64 z) ∧ FifoI w c v W' := by
  obtain ⟨ls, mk, h1, h2, h3⟩ := h
  by_cases hz : addE mk t c 255 = 0
  · refine .inl ((aw_add h1 t c false).mono fun e W' ⟨he, ha, hg⟩ => ?_)
    have ho := h3.kept hg (own_not h3)
    obtain ⟨e1, e2, e3, e4⟩ := addL_ok (ls := ls) (f := false) hz
    refine ⟨by rw [he, hz], _, _, ls c, ⟨ha, h2.add t c, ?_, by omega⟩, ho, hg⟩
    rw [e1, Int.toNat_natCast, ins_same]; rfl
  · refine .inr ⟨addE mk t c 255, by simpa using hz, (aw_add h1 t c false).mono fun e W' ⟨he, ha, hg⟩ => ?_⟩
    have ho := h3.kept hg (own_not h3)
    obtain ⟨e1, e2⟩ := addL_no (ls := ls) (f := false) hz
    rw [e1, e2] at ha
    exact ⟨he, ls, mk, ha, h2, ho⟩
theorem fifo_add2 {w W : World} {c : Nat} {v : Value} (h : FifoI w c v W) (t p : Int) (f : Bool) (hp : p ≠ c) : Calls Try.prog 18 #[.pointer (some ⟨w.heap.size, 0, none⟩), .int .i64 t, .int .i64 p, .int .i64 255, .bool f] W fun e W' => ∃ z, e = .returned (.int .i64 z) ∧ FifoI w c v W' := by
  obtain ⟨ls, mk, h1, h2, h3⟩ := h
  refine (aw_add h1 t p f).mono fun e W' ⟨he, ha, hg⟩ => ?_
  have ho := h3.kept hg (own_not h3)
  refine ⟨_, he, _, _, ha, h2.add t p, ?_⟩
  rw [addL_other hp]; exact ho
theorem FifoI.append {w W W' : World} {c : Nat} {v v' : Value} {l : List Nat} {t : Int} {ls : Nat → List Nat} {mk : Nat → Nat} (h1 : AW ls mk w W) (h2 : M255 mk) (h3 : ls c = l ++ [t.toNat]) (h4 : t = t.toNat)
    (h5 : W'.ownsRow (w.heap.size + 1) 3 1 v' (l.length + 1) (encI l ++ [.int .i64 t])) (hg : (W.alloc (.cells #[.int .i64 t] 3)).grownBy W' v.ownBlock) (hv : ∀ k, v.ownBlock = some k → w.heap.size + 1 ≤ k) : FifoI w c v' W' := by
  refine ⟨ls, mk, ?_, h2, ?_⟩
  · have h1' := h1.none (grown_alloc W (.cells #[.int .i64 t] 3) none)
    refine ⟨h1'.1.kept hg fun e => ?_, h1'.2.grown hg h1'.2.size fun k e => ?_⟩
    · have := hv _ e.symm; omega
    · have := hv _ e; omega
  · rw [h3, List.length_append]
    have : encI (l ++ [t.toNat]) = encI l ++ [.int .i64 t] := by rw [h4]; simp [encI]
    rw [this]; exact h5

/-- What holds in the taking loop: got is G, X is taken and not yet in got. -/
structure FJ (w : World) (c N1 : Nat) (want : List Nat) (vw vg : Value) (G X : List Nat) (ls : Nat → List Nat) (mk : Nat → Nat) (W : World) : Prop where
  lt : w.heap.size < N1
  le : N1 ≤ W.heap.size
  ow : W.ownsRow (w.heap.size + 1) 3 1 vw want.length (encI want)
  far : ∀ k, vw.ownBlock = some k → k < N1
  aw : AW ls mk w W
  m : M255 mk
  eq : G ++ X ++ ls c = want
  og : W.ownsRow N1 3 1 vg G.length (encI G)
theorem FJ.keep {w : World} {c N1 : Nat} {want : List Nat} {vw vg : Value} {G X : List Nat} {ls : Nat → List Nat} {mk : Nat → Nat} {W W' : World} (h : FJ w c N1 want vw vg G X ls mk W) (hg : W.grownBy W' none) : FJ w c N1 want vw vg G X ls mk W' :=
  ⟨h.lt, Nat.le_trans h.le hg.size, h.ow.kept hg (by cases vw.ownBlock <;> simp), h.far, h.aw.none hg, h.m, h.eq, h.og.kept hg (by cases vg.ownBlock <;> simp)⟩
def FifoJ (w : World) (c N1 : Nat) (want : List Nat) (vw : Value) (n : Nat) (vg : Value) (W : World) : Prop :=
  ∃ G ls mk, FJ w c N1 want vw vg G [] ls mk W ∧ (order ls).length = n
theorem fifoJ_start {w W : World} {c : Nat} {vw : Value} {ls : Nat → List Nat} {mk : Nat → Nat} (h1 : AW ls mk w W) (h2 : M255 mk) (h3 : W.ownsRow (w.heap.size + 1) 3 1 vw (ls c).length (encI (ls c))) : FifoJ w c W.heap.size (ls c) vw (order ls).length (.slice none 0 0) W :=
  ⟨[], ls, mk, ⟨h1.1.lt, Nat.le_refl _, h3, fun k e => (h3.lt k e).2, h1, h2, rfl, World.ownsRow_nil _ _ _ _⟩, rfl⟩
theorem head_at {ls : Nat → List Nat} {t : Nat} {r : List Nat} (ho : order ls = t :: r) : ∃ p b, p < 256 ∧ ls p = t :: b := by
  rcases topN_or ls 256 with h | ⟨p, h⟩
  · rw [order, topN_none h] at ho; cases ho
  · obtain ⟨h1, h2, h3⟩ := topN_some h
    cases hl : ls p with
    | nil => exact absurd hl h2
    | cons a b =>
      rw [order, h3, hl] at ho
      injection ho with h _
      subst h
      exact ⟨p, b, h1, hl⟩
theorem fifo_take {w W : World} {c N1 n : Nat} {want : List Nat} {vw vg : Value} (h : FifoJ w c N1 want vw n vg W) (hn : 0 < n) : ∃ (x p : Nat) (G X : List Nat) (ls ls' : Nat → List Nat) (mk mk' : Nat → Nat),
    Hid (FJ w c N1 want vw vg G [] ls mk W) ∧
    Hid (∀ W, FJ w c N1 want vw vg G [] ls mk W → Calls Try.prog 19 #[.pointer (some ⟨w.heap.size, 0, none⟩), .int .i64 0] W fun e w' => e = .returned (.tuple #[.int .i64 x, .int .i64 0]) ∧ FJ w c N1 want vw vg G [] ls mk w') ∧
    Hid (∀ W, FJ w c N1 want vw vg G [] ls mk W → Calls Try.prog 20 #[.pointer (some ⟨w.heap.size, 0, none⟩), .int .i64 x] W fun e w' => e = .returned (.tuple #[.int .i64 p, .int .i64 0]) ∧ W = w') ∧
    Hid (∀ W, FJ w c N1 want vw vg G [] ls mk W → Calls Try.prog 21 #[.pointer (some ⟨w.heap.size, 0, none⟩), .int .i64 0] W fun e w' => e = .returned (.tuple #[.int .i64 x, .int .i64 0]) ∧ FJ w c N1 want vw vg G X ls' mk' w') ∧
    Hid ((order ls').length + 1 = n) ∧ ((p = c ∧ X = [x]) ∨ (p ≠ c ∧ X = [])) := by
  obtain ⟨G, ls, mk, hF, hl⟩ := h
  obtain ⟨x, r, ho⟩ : ∃ x r, order ls = x :: r := by
    cases hh : order ls with
    | nil => rw [hh] at hl; simp at hl; omega
    | cons x r => exact ⟨x, r, rfl⟩
  obtain ⟨p, b, hp, hxp⟩ := head_at ho
  have haw := hF.aw
  obtain ⟨⟨q, h1, h2, rfl⟩, hb⟩ := haw
  have hm : x ∈ ls p := by rw [hxp]; simp
  have hx2 : x < 256 := (h2.r.mem p x hm).1
  have hm0 : q.mask x ≠ 0 := (h2.mask0 x hx2).2 ⟨p, hm⟩
  have hmx : q.mask x = 255 := (hF.m x).resolve_left hm0
  have hb' : bestOf q.mask ((0 : Int)).toNat (order ls) = some x := by rw [ho]; exact best_head (by decide) hmx
  have hc : isPro 0 = true := by decide
  have heq : G ++ (if p = c then [x] else []) ++ del ls x c = want := by
    have := hF.eq
    by_cases e : p = c
    · subst e
      rw [if_pos rfl, del, hxp, List.erase_cons_head]
      rw [hxp] at this; simpa using this
    · rw [if_neg e, del_same' fun hx => e (h2.only hm c hx).symm]; exact this
  refine ⟨x, p, G, if p = c then [x] else [], ls, del ls x, q.mask, upd q.mask x 0, hF, fun W' h' => ?_, fun W' h' => ?_, fun W' h' => ?_, ?_, ?_⟩
  · refine (best_any h'.aw.1 0).mono fun e w' ⟨he, hg⟩ => ⟨?_, h'.keep hg⟩
    rw [he, bestI, if_pos hc, hb']; rfl
  · exact (prio_ok h'.aw.1 x p hx2 hm0 hm)
  · refine (take_ok h'.aw.1 0 hc x hb').mono fun e w' ⟨he, hgr, hq⟩ => ⟨he, h'.lt, Nat.le_trans h'.le hgr.size, h'.ow.kept hgr (own_not h'.ow), h'.far, h'.aw.own hgr hq, h'.m.upd _ _ (.inl rfl), heq, h'.og.kept hgr ?_⟩
    refine .inr fun e => ?_
    have := (h'.og.lt _ e).1
    have := h'.lt
    omega
  · show _ + 1 = _
    rw [order_tail h2 ho, ← hl, ho]; rfl
  · by_cases e : p = c
    · exact .inl ⟨e, if_pos e⟩
    · exact .inr ⟨e, if_neg e⟩
theorem FJ.append {w W W' : World} {c N1 x : Nat} {want : List Nat} {vw vg v' : Value} {G : List Nat} {ls : Nat → List Nat} {mk : Nat → Nat} (h : FJ w c N1 want vw vg G [x] ls mk W)
    (h5 : W'.ownsRow N1 3 1 v' (G.length + 1) (encI G ++ [.int .i64 x])) (hg : (W.alloc (.cells #[.int .i64 x] 3)).grownBy W' vg.ownBlock) : FifoJ w c N1 want vw (order ls).length v' W' := by
  have hk := h.keep (grown_alloc W (.cells #[.int .i64 x] 3) none)
  have hv : ∀ k, vg.ownBlock = some k → N1 ≤ k := fun k e => (hk.og.lt k e).1
  refine ⟨G ++ [x], ls, mk, ⟨h.lt, Nat.le_trans hk.le hg.size, hk.ow.kept hg ?_, h.far, ⟨hk.aw.1.kept hg fun e => ?_, hk.aw.2.grown hg hk.aw.2.size fun k e => ?_⟩, h.m, ?_, ?_⟩, rfl⟩
  · cases e : vw.ownBlock with
    | none => exact .inl rfl
    | some k =>
      refine .inr fun e2 => ?_
      have := h.far k e
      have := hv k e2.symm
      omega
  · have := hv _ e.symm; have := h.lt; omega
  · have := hv _ e; have := h.lt; omega
  · rw [List.append_nil]; exact h.eq
  · rw [List.length_append]
    have : encI (G ++ [x]) = encI G ++ [.int .i64 x] := by simp [encI]
    rw [this]; exact h5
theorem FJ.next {w W : World} {c N1 : Nat} {want : List Nat} {vw vg : Value} {G : List Nat} {ls : Nat → List Nat} {mk : Nat → Nat} (h : FJ w c N1 want vw vg G [] ls mk W) : FifoJ w c N1 want vw (order ls).length vg W := ⟨G, ls, mk, h, rfl⟩
/-- At the end all of want is got. -/
theorem FifoJ.done {w W : World} {c N1 : Nat} {want : List Nat} {vw vg : Value} (h : FifoJ w c N1 want vw 0 vg W) (hw : want.length ≤ 65536) : Calls Try.prog 12 #[vg, vw] W fun e W' => e = .returned (.bool true) ∧ w.grownBy W' none := by
  obtain ⟨G, ls, mk, h, ho⟩ := h
  have ho' := List.length_eq_zero_iff.1 ho
  have hc : ls c = [] := by
    cases e : ls c with
    | nil => rfl
    | cons x r =>
      obtain ⟨⟨q, h1, h2, rfl⟩, hb⟩ := h.aw
      have hm : x ∈ ls c := by rw [e]; simp
      have := (order_mem (ls := ls) (t := x) 256).2 ⟨c, (h2.r.mem c x hm).2.1, hm⟩
      rw [show orderN 256 ls = [] from ho'] at this
      cases this
  have hG : G = want := by have := h.eq; rw [hc] at this; simpa using this
  subst hG
  refine (equal_any G G W vg vw (SlN.of_row h.og) (SlN.of_row h.ow) hw).mono fun e W' ⟨he, hg⟩ => ⟨by rw [he]; simp, grown_trans (grown_below h.aw.2) hg⟩
end Go.Proofs.Ytibmmonboeifhaa
