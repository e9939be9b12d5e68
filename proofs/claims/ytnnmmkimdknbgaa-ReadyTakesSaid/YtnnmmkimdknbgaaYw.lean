/- ReadyTakes: the walk. Over the seat of ReadyPlays, ReadyTakes, ReadyFIFO, ReadyRotates. -/
import Derived.Test.YtnnmmkimdknbgaaYv
import Derived.LoopTactic
namespace Go.Proofs.Ytnnmmkimdknbgaa
open Go.RowKit Go.Shelf
set_option linter.unusedVariables false

/-- A call as it came in. -/
structure ActT where
  d : Int
  t : Int
  p : Int
  m : Int
  n : Int
  f : Bool
def ActsAt (w : World) (b off : Nat) (A : List ActT) : Prop :=
  b < w.heap.size ∧ ∀ i x, A[i]? = some x → w.cell? ⟨b, off + i * 6, none⟩ = some (.int .u8 x.d) ∧ w.cell? ⟨b, off + i * 6 + 1, none⟩ = some (.int .i64 x.t) ∧ w.cell? ⟨b, off + i * 6 + 2, none⟩ = some (.int .i64 x.p) ∧ w.cell? ⟨b, off + i * 6 + 3, none⟩ = some (.int .i64 x.m) ∧ w.cell? ⟨b, off + i * 6 + 4, none⟩ = some (.int .i64 x.n) ∧ w.cell? ⟨b, off + i * 6 + 5, none⟩ = some (.bool x.f)
theorem ActsAt.below {w w2 : World} {b off : Nat} {A : List ActT} (h : ActsAt w b off A) (hb : Below w.heap.size w w2) : ActsAt w2 b off A := by
  have k : ∀ (j : Nat) (v : Value), w.cell? ⟨b, j, none⟩ = some v → w2.cell? ⟨b, j, none⟩ = some v := fun j v e => by rw [hb.cell (p := ⟨b, j, none⟩) h.1]; exact e
  refine ⟨Nat.lt_of_lt_of_le h.1 hb.size, fun i x hx => ?_⟩
  obtain ⟨h1, h2, h3, h4, h5, h6⟩ := h.2 i x hx
  exact ⟨k _ _ h1, k _ _ h2, k _ _ h3, k _ _ h4, k _ _ h5, k _ _ h6⟩
/-- The queue behind some adds with all masks set. -/
def add255 (st : (Nat → List Nat) × (Nat → Nat)) (x : ActT) : (Nat → List Nat) × (Nat → Nat) := (addL st.1 st.2 x.t x.p 255 x.f, addM st.2 x.t x.p 255)
def adds255 (A : List ActT) : (Nat → List Nat) × (Nat → Nat) := A.foldl add255 (noL, fun _ => 0)
theorem adds255_succ {A : List ActT} {i : Nat} {x : ActT} (h : A[i]? = some x) : adds255 (A.take (i + 1)) = add255 (adds255 (A.take i)) x := by
  rw [adds255, List.take_add_one, h]; simp [adds255]
theorem add255_masks (A : List ActT) : ∀ t, (adds255 A).2 t = 0 ∨ (adds255 A).2 t = 255 := by
  have key : ∀ (A : List ActT) (st : (Nat → List Nat) × (Nat → Nat)), (∀ t, st.2 t = 0 ∨ st.2 t = 255) → ∀ t, (A.foldl add255 st).2 t = 0 ∨ (A.foldl add255 st).2 t = 255 := by
    intro A
    induction A with
    | nil => exact fun st h => h
    | cons x A ih =>
      intro st h
      refine ih _ fun t => ?_
      show addM st.2 x.t x.p 255 t = 0 ∨ addM st.2 x.t x.p 255 t = 255
      rw [addM]
      split
      · rw [upd]; split
        · exact .inr rfl
        · exact h t
      · exact h t
  exact key A _ fun _ => .inl rfl
theorem AW.step {ls ls' : Nat → List Nat} {mk mk' : Nat → Nat} {w W : World} {v : Value} {f : FuncId} {args : Array Value} (h : AW ls mk w W) (hc : Calls Try.prog f args W (QPE v w.heap.size ls' mk' W)) : Calls Try.prog f args W fun e W' => e = .returned v ∧ AW ls' mk' w W' :=
  hc.mono fun e W' ⟨he, hg, hq⟩ => ⟨he, h.own hg hq⟩

/-- More than 60 calls. -/
theorem takes_long (a : Option Addr) (n cap : Nat) (hn : 60 < n) (c : Int) (w : World) : Calls Try.prog 4 #[.slice a n cap, .int .u8 c] w fun e w' => e = .returned (.bool true) ∧ w.grownBy w' none := by
  have h : (60 : Int) < n := by omega
  clear hn
  go_enter Try.func4, Try.ntmps4
  go_wp2_with (go_at_call 7; refine (awake_any _).mono ?_; rintro e w' ⟨rfl, g1⟩)
  go_ret
  exact ⟨rfl, g1⟩
/-- How the Acts came in. -/
def ActsIn (w : World) (a : Option Addr) (A : List ActT) : Prop := A = [] ∨ ∃ b off, a = some ⟨b, off, none⟩ ∧ ActsAt w b off A

theorem owns_row {W : World} {s L : Nat} {xs : List Nat} (h : W.ownsRow s 3 1 (.slice (some ⟨s, 0, none⟩) L L) L (encI xs)) : RowAt W s 3 (encI xs).toArray := by
  rcases h.2 with h | ⟨g, cap, cur, h1, _, h3, _, _, h6, h7⟩
  · cases h.1
  · injection h1 with h1 _ h1'
    injection h1 with h1
    injection h1 with h1
    subst h1 h1'
    rw [List.take_of_length_le (by simp [h6])] at h7
    rw [← h7]; exact h3
theorem order_row {ls : Nat → List Nat} {mk : Nat → Nat} {w W : World} (h : AW ls mk w W) : Calls Try.prog 11 #[.pointer (some ⟨w.heap.size, 0, none⟩)] W fun e W' => ∃ g, e = .returned (.slice (some ⟨g, 0, none⟩) (order ls).length (order ls).length) ∧ w.heap.size < g ∧ RowAt W' g 3 (encI (order ls)).toArray ∧ AW ls mk w W' := by
  have h' := h
  obtain ⟨⟨q, h1, h2, rfl⟩, hb⟩ := h'
  exact (order_in _ q ls h2 W h1).mono fun e W' ⟨he, ho, hg⟩ => ⟨W.heap.size, he, h1.lt, owns_row ho, h.none hg⟩
theorem AW.few {ls : Nat → List Nat} {mk : Nat → Nat} {w W : World} (h : AW ls mk w W) : (order ls).length ≤ 65536 := by
  obtain ⟨⟨q, h1, h2, rfl⟩, hb⟩ := h
  exact order_len h2
/-- What holds at the head of a round of the taking loop. -/
def TakeI (w : World) (g : Nat) (l : List Nat) (i : Nat) (W : World) : Prop :=
  w.heap.size < g ∧ RowAt W g 3 (encI l).toArray ∧ i ≤ l.length ∧ ∃ ls mk, AW ls mk w W ∧ order ls = l.drop i ∧ ∀ t, mk t = 0 ∨ mk t = 255

theorem take_facts {w W : World} {g i : Nat} {l : List Nat} (h : TakeI w g l i W) (hi : i < l.length) (c : Nat) (hc : c < 8) : ∃ (x p : Nat) (ls : Nat → List Nat) (mk : Nat → Nat), l[i]? = some x ∧
    Hid (Calls Try.prog 17 #[.pointer (some ⟨w.heap.size, 0, none⟩), .int .i64 x] W fun e w' => e = .returned (.tuple #[.int .i64 p, .int .i64 0]) ∧ W = w') ∧
    Hid (Calls Try.prog 18 #[.pointer (some ⟨w.heap.size, 0, none⟩), .int .i64 c] W fun e w' => e = .returned (.tuple #[.int .i64 x, .int .i64 0]) ∧ AW ls mk w w' ∧ TakeI w g l (i + 1) w') ∧
    Hid (∀ W', AW ls mk w W' → Calls Try.prog 14 #[.pointer (some ⟨w.heap.size, 0, none⟩)] W' fun e w' => ∃ z : Int, e = .returned (.int .i64 z) ∧ z ≤ p ∧ W'.grownBy w' none) := by
  obtain ⟨hg, hr, _, ls, mk, haw, hord, hmk⟩ := h
  have hx : l[i]? = some l[i] := List.getElem?_eq_getElem hi
  rw [List.drop_eq_getElem_cons hi] at hord
  generalize l[i] = x at hx hord
  obtain ⟨p, hp, hp2, hxp⟩ := top_head hord
  have haw' := haw
  obtain ⟨⟨q, h1, h2, rfl⟩, hb⟩ := haw'
  have hx2 : x < 256 := (h2.r.mem p x hxp).1
  have hm0 : q.mask x ≠ 0 := (h2.mask0 x hx2).2 ⟨p, hxp⟩
  have hm : q.mask x = 255 := (hmk x).resolve_left hm0
  have hb' : bestOf q.mask ((c : Int)).toNat (order ls) = some x := by rw [hord]; exact best_head (by simpa using hc) hm
  refine ⟨x, p, del ls x, upd q.mask x 0, hx, prio_ok haw.1 x p hx2 hm0 hxp, ?_, fun W' h' => ?_⟩
  · refine (take_ok haw.1 (c : Int) ((isPro_iff _).2 ⟨by omega, by omega⟩) x hb').mono fun e w' ⟨he, hgr, hq⟩ => ⟨he, haw.own hgr hq, hg, hr.kept hgr (by simp; omega), hi, del ls x, upd q.mask x 0, haw.own hgr hq, order_tail h2 hord, fun t => ?_⟩
    rw [upd]; split
    · exact .inl rfl
    · exact hmk t
  · refine (greatest_any h'.1).mono fun e w' ⟨he, hgr⟩ => ⟨_, he, ?_, hgr⟩
    rw [← hp]; exact topN_del x 256

theorem TakeI.keep {w W W' : World} {g i : Nat} {l : List Nat} (h : TakeI w g l i W) (hg : W.grownBy W' none) : TakeI w g l i W' := by
  obtain ⟨h1, h2, h3, ls, mk, h4, h5, h6⟩ := h
  exact ⟨h1, h2.kept hg (by simp), h3, ls, mk, h4.none hg, h5, h6⟩
theorem TakeI.at {w W : World} {g i j : Nat} {l : List Nat} {x : Nat} (h : TakeI w g l j W) (hx : l[i]? = some x) : W.cell? ⟨g, i, none⟩ = some (.int .i64 (x : Int)) := by
  rw [h.2.1.cell i]; simp [encI, hx]
theorem take_end {w W : World} {g : Nat} {l : List Nat} (h : TakeI w g l l.length W) (c : Nat) (hc : c < 8) : ∃ (ls : Nat → List Nat) (mk : Nat → Nat),
    Hid (Calls Try.prog 18 #[.pointer (some ⟨w.heap.size, 0, none⟩), .int .i64 c] W fun e w' => e = .returned (.tuple #[.int .i64 0, .int .i64 22]) ∧ AW ls mk w w') ∧
    Hid (∀ W', AW ls mk w W' → Calls Try.prog 13 #[.pointer (some ⟨w.heap.size, 0, none⟩)] W' fun e w' => e = .returned (.int .i64 0) ∧ W' = w') ∧
    Hid (∀ W', AW ls mk w W' → Calls Try.prog 14 #[.pointer (some ⟨w.heap.size, 0, none⟩)] W' fun e w' => e = .returned (.int .i64 (-1)) ∧ AW ls mk w w') := by
  obtain ⟨hg, hr, _, ls, mk, haw, hord, hmk⟩ := h
  have ho : order ls = [] := by rw [hord, List.drop_length]
  refine ⟨ls, mk, ?_, fun W' h' => ?_, fun W' h' => ?_⟩
  · refine (take_err haw.1 (c : Int) 22 ?_ (by decide)).mono fun e w' ⟨he, hgr⟩ => ⟨he, haw.none hgr⟩
    rw [bestI, if_pos ((isPro_iff _).2 ⟨by omega, by omega⟩), ho]; rfl
  · refine (len_any h'.1).mono fun e w' ⟨he, hw⟩ => ⟨by rw [he, ho]; rfl, hw⟩
  · refine (greatest_any h'.1).mono fun e w' ⟨he, hgr⟩ => ⟨?_, h'.none hgr⟩
    rcases topN_or ls 256 with h1 | ⟨p, h1⟩
    · rw [he, h1]
    · obtain ⟨h2, h3, h4⟩ := topN_some h1
      have : order ls = ls p ++ orderN p ls := h4
      rw [ho] at this
      exact absurd (List.append_eq_nil_iff.1 this.symm).1 h3

set_option maxRecDepth 100000 in
set_option maxHeartbeats 4000000 in
theorem takes_walk (a : Option Addr) (cap : Nat) (A : List ActT) (hn : A.length ≤ 60) (c : Nat) (hc : c < 256) (w : World) (hA : ActsIn w a A) : Calls Try.prog 4 #[.slice a A.length cap, .int .u8 c] w fun e w' => e = .returned (.bool true) ∧ w.grownBy w' none := by
  have h60 : ¬ (60 : Int) < A.length := by omega
  have HL := Lib.hid hn
  have HA := Lib.hid hA
  have HC := Lib.hid hc
  have HN : Hid (Calls Try.prog 8 #[] w fun e W' => e = .returned (.pointer (some ⟨w.heap.size, 0, none⟩)) ∧ AW noL (fun _ => 0) w W') := (new_any w).mono fun e W' ⟨he, hg, hq⟩ => ⟨he, hq, below_grown hg⟩
  clear hn hA hc
  go_enter Try.func4, Try.ntmps4
  go_wp2_with (go_at_call 8; refine HN.out.mono ?_; rintro e W1 ⟨rfl, a1⟩)
  have HA1 := Lib.hid a1
  clear a1
  go_loopw [6] (fun vi wr => ∃ i : Nat, vi = .int .i64 i ∧ Hid (i ≤ A.length ∧ AW (adds255 (A.take i)).1 (adds255 (A.take i)).2 w wr)) (fun vi _ => A.length - (intOf vi).toNat)
  case atStart => exact ⟨0, rfl, Nat.zero_le _, HA1.out⟩
  case round =>
    obtain ⟨i, rfl, HR⟩ := hrel
    by_cases hi : i < A.length
    · have HI := Lib.hid hi
      obtain ⟨b, off, rfl, hAt⟩ : ∃ b off, a = some ⟨b, off, none⟩ ∧ ActsAt w b off A := by
        rcases HA.out with h | h
        · rw [h] at hi; cases hi
        · exact h
      obtain ⟨x, hx⟩ : ∃ x, A[i]? = some x := ⟨_, List.getElem?_eq_getElem hi⟩
      obtain ⟨c1, c2, c3, c4, c5, c6⟩ := (hAt.below HR.out.2.2).2 i x hx
      have i0 : (0 : Int) ≤ i := by omega
      have i1 : (i : Int) < A.length := by omega
      have HX := Lib.hid (adds255_succ hx)
      have HADD : Hid (∀ W, AW (adds255 (A.take i)).1 (adds255 (A.take i)).2 w W → Calls Try.prog 16 #[.pointer (some ⟨w.heap.size, 0, none⟩), .int .i64 x.t, .int .i64 x.p, .int .i64 255, .bool x.f] W fun e W' => e = .returned (.int .i64 (addE (adds255 (A.take i)).2 x.t x.p 255)) ∧ AW (add255 (adds255 (A.take i)) x).1 (add255 (adds255 (A.take i)) x).2 w W') := fun W h => h.step (qadd_any h.1 x.t x.p 255 x.f)
      have hmx : Try.prog.follows .mixedOrders = true := by kernel_rfl
      have HRD := Lib.hid (HR.out.2.none (grown_drew wr none))
      generalize x.t = xt at c2 HADD
      generalize x.p = xp at c3 HADD
      generalize x.f = xf at c6 HADD
      clear hi hAt hx c1 c4 c5
      go_wp2
      go_region_with (go_at_call 16; refine (HADD.out _ HRD.out).mono ?_; rintro e W2 ⟨rfl, a2⟩)
      all_goals
        go_wp2
        go_roundw
        case rel => exact ⟨i + 1, rfl, HI.out, by rw [HX.out]; assumption⟩
        case measure =>
          have := HI.out
          show A.length - (intOf (Value.int .i64 ((i : Int) + 1))).toNat < A.length - (intOf (Value.int .i64 (i : Int))).toNat
          simp only [intOf]
          omega
    · obtain rfl : i = A.length := by have := HR.out.1; omega
      have hlt : ¬ (A.length : Int) < A.length := by omega
      clear hi
      have HO : Hid (Calls Try.prog 11 #[.pointer (some ⟨w.heap.size, 0, none⟩)] wr fun e W' => ∃ g, e = .returned (.slice (some ⟨g, 0, none⟩) (order (adds255 A).1).length (order (adds255 A).1).length) ∧ w.heap.size < g ∧ RowAt W' g 3 (encI (order (adds255 A).1)).toArray ∧ AW (adds255 A).1 (adds255 A).2 w W') := by
        have h := HR.out.2
        rw [List.take_length] at h
        exact order_row h
      go_wp2_with (go_at_call 11; refine HO.out.mono ?_; rintro e W2 ⟨g, rfl, hg, hr, a2⟩)
      have HS : Hid (TakeI w g (order (adds255 A).1) 0 W2) := ⟨hg, hr, Nat.zero_le _, (adds255 A).1, (adds255 A).2, a2, rfl, add255_masks A⟩
      have HLL : Hid ((order (adds255 A).1).length ≤ 65536) := a2.few
      clear hg hr a2 HO HR HA HA1 HN
      generalize order (adds255 A).1 = l at HS HLL ⊢
      go_loopw [4, 8, 9, 10, 11, 12] (fun v4 vi v9 v10 v11 v12 wr => ∃ i : Nat, vi = .int .i64 i ∧ Hid (TakeI w g l i wr)) (fun v4 vi v9 v10 v11 v12 _ => l.length - (intOf vi).toNat)
      case atStart => exact ⟨0, rfl, HS⟩
      case round =>
        obtain ⟨i, rfl, HT⟩ := hrel
        by_cases hi : i < l.length
        · have HI := Lib.hid hi
          obtain ⟨x, p, ls, mk, hx, HP, HTK, HGR⟩ := take_facts HT.out hi (c % 8) (by omega)
          have c1 : wr.cell? ⟨g, i, none⟩ = some (.int .i64 (x : Int)) := by
            rw [HT.out.2.1.cell i]; simp [encI, hx]
          have i0 : (0 : Int) ≤ i := by omega
          have i1 : (i : Int) < l.length := by omega
          have i2 : (i : Int) < 65536 := by have := HLL.out; omega
          have hxx : ((x : Int) != x) = false := by simp
          rw [show ((c % 8 : Nat) : Int) = (c : Int) % 8 from by omega] at HTK
          have HX := Lib.hid hx
          clear hi hx
          go_upto_region 14 with (first
            | (go_at_call 17; refine HP.out.mono ?_; rintro e w' ⟨rfl, rfl⟩)
            | (go_at_call 18; refine HTK.out.mono ?_; rintro e W2 ⟨rfl, a2, t2⟩; have A2 := Lib.hid a2; have T2 := Lib.hid t2; have c2 := TakeI.at t2 HX.out; clear a2 t2 c1))
          by_cases h1 : (i : Int) + 1 < l.length
          · go_wp2_with (go_at_call 14; refine (HGR.out _ A2.out).mono ?_; rintro e W3 ⟨z, rfl, hz, g3⟩; have hz' : decide ((p : Int) < z) = false := decide_eq_false (Int.not_lt.2 hz); have T3 := Lib.hid (T2.out.keep g3); clear hz g3)
            all_goals
              go_roundw
              case rel => exact ⟨i + 1, rfl, T3.out⟩
              case measure =>
                have := HI.out
                show l.length - (intOf (Value.int .i64 ((i : Int) + 1))).toNat < l.length - (intOf (Value.int .i64 (i : Int))).toNat
                simp only [intOf]
                omega
          · go_wp2
            all_goals
              go_roundw
              case rel => exact ⟨i + 1, rfl, T2.out⟩
              case measure =>
                have := HI.out
                show l.length - (intOf (Value.int .i64 ((i : Int) + 1))).toNat < l.length - (intOf (Value.int .i64 (i : Int))).toNat
                simp only [intOf]
                omega
        · obtain rfl : i = l.length := by have := HT.out.2.2.1; omega
          have hlt : ¬ (l.length : Int) < l.length := by omega
          obtain ⟨ls, mk, ETK, ELEN, EGR⟩ := take_end HT.out (c % 8) (by omega)
          rw [show ((c % 8 : Nat) : Int) = (c : Int) % 8 from by omega] at ETK
          clear hi
          go_wp2_with (first
            | (go_at_call 18; refine ETK.out.mono ?_; rintro e W2 ⟨rfl, a2⟩)
            | (go_at_call 13; refine (ELEN.out _ a2).mono ?_; rintro e w' ⟨rfl, rfl⟩)
            | (go_at_call 14; refine (EGR.out _ a2).mono ?_; rintro e W3 ⟨rfl, a3⟩)
            | (go_at_call 7; refine (awake_any _).mono ?_; rintro e W4 ⟨rfl, g4⟩))
          go_ret
          exact ⟨rfl, grown_trans (grown_below a3.2) g4⟩
end Go.Proofs.Ytnnmmkimdknbgaa
