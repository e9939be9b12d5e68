/- ReadyPlays: the walk. -/
import Derived.Test.YtbjpaemldnoinaaQm
import Derived.Test.YtbjpaemldnoinaaYy
import Derived.Deep.RegionWith
namespace Go.Proofs.Ytbjpaemldnoinaa
open Go.RowKit
set_option linter.unusedVariables false

theorem plays_long (a : Option Addr) (n cap : Nat) (hn : 60 < n) (w : World) : Calls Try.prog 3 #[.slice a n cap] w fun e w' => e = .returned (.bool true) ∧ Below w.heap.size w w' := by
  have h : (60 : Int) < n := by omega
  clear hn
  go_enter Try.func3, Try.ntmps3
  go_wp2_with (go_at_call 9; refine (awake_any _).mono ?_; rintro e w' ⟨rfl, g1⟩)
  go_ret
  exact ⟨rfl, below_grown g1⟩
theorem gre_top (mk : Nat → Nat) (ls : Nat → List Nat) : ∀ n, grE (ents mk ls n) = topN n ls
  | 0 => rfl
  | n + 1 => by
    rw [ents, topN]
    cases hl : ls n with
    | nil => rw [if_pos rfl]; exact gre_top mk ls n
    | cons t r => rw [if_neg (by simp)]; rfl
theorem thr_enc (mk : Nat → Nat) (ls : Nat → List Nat) (n : Nat) : thrE (ents mk ls n) = encI (orderN n ls) := by
  have := congrArg (List.map fun x => Value.int .i64 x) (ents_t mk ls n)
  rw [List.map_map, List.map_map] at this
  exact this
theorem fr_none {W W' : World} (h : W.grownBy W' none) : Fr (fun _ => False) W W' := Fr.grown h fun k e => by cases e
section
variable {W0 W : World} {B lo R : Nat} {ls : Nat → List Nat} {mk : Nat → Nat}
theorem SlN.frN {W W' : World} {v : Value} {xs : List Nat} (h : SlN W v xs) (hg : Fr (fun _ => False) W W') : SlN W' v xs :=
  h.kept ⟨hg.os, hg.tape, hg.output, hg.size, fun k hk _ => hg.block k hk id⟩
theorem PlQ.order (h : PlQ W0 B lo R ls mk W) : Calls Try.prog 13 #[.pointer (some ⟨B, 0, none⟩)] W fun e W' => ∃ v, e = .returned v ∧ PlQ W0 B lo R ls mk W' ∧ SlN W' v (Proofs.Ytbjpaemldnoinaa.order ls) :=
  (order_any h.a).mono fun e W' ⟨v, he, hs, hg⟩ => ⟨v, he, h.rest (fr_none hg), hs⟩
theorem PlQ.ol (h : PlQ W0 B lo R ls mk W) : (Proofs.Ytbjpaemldnoinaa.order ls).length ≤ 256 := by
  have := h.a.pi.len; rw [ents_len] at this; exact this
theorem PlQ.rorder (h : PlQ W0 B lo R ls mk W) {v : Value} (hs : SlN W v (Proofs.Ytbjpaemldnoinaa.order ls)) : Calls Try.prog 14 #[.pointer (some ⟨R, 0, none⟩)] W fun e W' => ∃ u, e = .returned u ∧ PlQ W0 B lo R ls mk W' ∧ Calls Try.prog 12 #[v, u] W' fun e W'' => e = .returned (.bool true) ∧ PlQ W0 B lo R ls mk W'' := by
  refine (rorder_any h.b h.a.pi.len).mono fun e W' ⟨u, he, ho, hb⟩ => ?_
  have hf : Fr (fun _ => False) W W' := ⟨hb.os, hb.tape, hb.output, hb.size, fun k hk _ => hb.block k hk⟩
  refine ⟨u, he, h.rest hf, ?_⟩
  rw [thr_enc] at ho
  refine (equal_any _ _ W' v u (hs.frN hf) (SlN.of_row ho) (by have := h.ol; omega)).mono fun e W'' ⟨he, hg⟩ => ⟨?_, (h.rest hf).rest (fr_none hg)⟩
  rw [he]; simp [Proofs.Ytbjpaemldnoinaa.order]
theorem PlQ.len (h : PlQ W0 B lo R ls mk W) : Calls Try.prog 15 #[.pointer (some ⟨B, 0, none⟩)] W fun e W' => e = .returned (.int .i64 ((Proofs.Ytbjpaemldnoinaa.order ls).length : Int)) ∧ W = W' := len_any h.a
theorem PlQ.cell (h : PlQ W0 B lo R ls mk W) : ∃ a c, W.cell? ⟨R, 0, none⟩ = some (.slice a (Proofs.Ytbjpaemldnoinaa.order ls).length c) := by
  obtain ⟨v, hq⟩ := h.b
  obtain ⟨a, c, hv⟩ := own_shape hq.own
  rw [ents_len] at hv
  exact ⟨a, c, by rw [← show v = .slice a (Proofs.Ytbjpaemldnoinaa.order ls).length c from hv]; exact hq.row.cell 0⟩
theorem PlQ.great (h : PlQ W0 B lo R ls mk W) : Calls Try.prog 16 #[.pointer (some ⟨B, 0, none⟩)] W fun e W' => e = .returned (.int .i64 (topN 256 ls)) ∧ PlQ W0 B lo R ls mk W' :=
  (greatest_any h.a).mono fun e W' ⟨he, hg⟩ => ⟨he, h.rest (fr_none hg)⟩
theorem PlQ.rgreat (h : PlQ W0 B lo R ls mk W) : Calls Try.prog 17 #[.pointer (some ⟨R, 0, none⟩)] W fun e W' => e = .returned (.int .i64 (topN 256 ls)) ∧ PlQ W0 B lo R ls mk W' :=
  (rgreat_any h.b h.a.pi.len).mono fun e W' ⟨he, n, hw⟩ => by subst hw; rw [gre_top] at he; exact ⟨he, h.rest (Fr.drewN _ _ _)⟩
end
theorem PlQ.start {w W1 : World} (hg : w.grownBy W1 none) (hq : QP w.heap.size noL (fun _ => 0) W1) : PlQ w w.heap.size W1.heap.size W1.heap.size noL (fun _ => 0) (W1.alloc (.cells #[.slice none 0 0] 29)) := by
  have hf : Fr (fun _ => False) W1 (W1.alloc (.cells #[.slice none 0 0] 29)) := Fr.alloc _ _ _
  refine ⟨hq.fr hf id, ⟨.slice none 0 0, RowAt.new W1 _ _, ?_, by simp [Value.ownBlock], Nat.le_refl _⟩, hq.lt, Fr.below (below_grown hg) hf hg.size (fun _ e => e.elim), Nat.le_refl _⟩
  rw [show ents (fun _ => 0) noL 256 = [] from by decide +kernel]
  exact ⟨rfl, .inl ⟨rfl, rfl⟩⟩
theorem actV_L (x : ActR) : actV x = (actC x).toArray := rfl

set_option maxRecDepth 100000 in
set_option maxHeartbeats 4000000 in
theorem rplays_walk (a : Option Addr) (cap : Nat) (A : List ActR) (hlen : A.length ≤ 60) (w : World) (hA : ActsIn w a A) : Calls Try.prog 3 #[.slice a A.length cap] w fun e w' => e = .returned (.bool true) ∧ Below w.heap.size w w' := by
  have h60 : ¬ (60 : Int) < A.length := by omega
  have HSA : Hid ((Try.prog.info? 32).map (·.size) = some 6) := by show _ = _; kernel_rfl
  have HA := Lib.hid hA
  have HLEN := Lib.hid hlen
  have HST : Hid (∀ W1 : World, w.grownBy W1 none → QP w.heap.size noL (fun _ => 0) W1 → PlQ w w.heap.size W1.heap.size W1.heap.size noL (fun _ => 0) (W1.alloc (.cells #[.slice none 0 0] 29))) := fun W1 g q => PlQ.start g q
  clear hA hlen
  go_enter Try.func3, Try.ntmps3
  go_upto_region 4 with (go_at_call 10; refine (new_any _).mono ?_; rintro e W1 ⟨rfl, g1, q1⟩; have HB := Lib.hid (HST.out W1 g1 q1); clear g1 q1)
  generalize W1.alloc _ = W2 at HB ⊢
  generalize W1.heap.size = R at HB ⊢
  have hB : ∃ ls mk, PlQ w w.heap.size R R ls mk W2 := ⟨_, _, HB.out⟩
  have HB0 := Lib.hid hB
  clear HB hB HST
  go_wp2
  go_loopw [5] (fun vi wr => ∃ i : Nat, vi = .int .i64 i ∧ Hid (i ≤ A.length ∧ ∃ ls mk, PlQ w w.heap.size R R ls mk wr)) (fun vi _ => A.length - (intOf vi).toNat)
  case atStart => exact ⟨0, rfl, Nat.zero_le _, HB0.out⟩
  case round =>
    obtain ⟨i, rfl, HR⟩ := hrel
    by_cases hi : i < A.length
    · have i1 : (0 : Int) ≤ i := by omega
      have i2 : (i : Int) < A.length := by omega
      have i3 : (i : Int) < 60 := by have := HLEN.out; omega
      have HI := Lib.hid hi
      obtain ⟨_, ls, mk, hq⟩ := HR.out
      obtain ⟨bb, off, y, rfl, hy, hr, y0, y1⟩ := HA.out.get hq.bel hi
      have HRR := Lib.hid hr
      have HQd := Lib.hid (hq.rest (Fr.drew (fun _ => False) wr))
      have HC := Lib.hid (change_any HQd.out y y0 y1)
      clear hi hy hr hq y0 y1
      go_upto_region 7 with (fail)
      have hmx : Try.prog.follows .mixedOrders = true := by kernel_rfl
      have r0 : wr.cell? ⟨bb, off + i * 6, none⟩ = some (.int .u8 y.d) := HRR.out 0 _ rfl
      have r1 : wr.cell? ⟨bb, off + i * 6 + 1, none⟩ = some (.int .i64 y.t) := HRR.out 1 _ rfl
      have r2 : wr.cell? ⟨bb, off + i * 6 + 2, none⟩ = some (.int .i64 y.p) := HRR.out 2 _ rfl
      have r3 : wr.cell? ⟨bb, off + i * 6 + 3, none⟩ = some (.int .i64 y.m) := HRR.out 3 _ rfl
      have r4 : wr.cell? ⟨bb, off + i * 6 + 4, none⟩ = some (.int .i64 y.n) := HRR.out 4 _ rfl
      have r5 : wr.cell? ⟨bb, off + i * 6 + 5, none⟩ = some (.bool y.f) := HRR.out 5 _ rfl
      go_region_with (first
        | (go_at_call 11; refine HC.out.mono ?_; rintro e W3 ⟨rfl, ls1, mk1, h1⟩; have H1 := Lib.hid h1; have hs1 : (topN 256 ls1 != topN 256 ls1) = false := (by simp); have hs2 : (((Proofs.Ytbjpaemldnoinaa.order ls1).length : Int) != ((Proofs.Ytbjpaemldnoinaa.order ls1).length : Int)) = false := (by simp); clear h1 r0 r1 r2 r3 r4 r5)
        | (go_at_call 13; refine H1.out.order.mono ?_; rintro e W4 ⟨v4, rfl, h4, s4⟩; have H4 := Lib.hid h4; have S4 := Lib.hid s4; clear h4 s4)
        | (go_at_call 14; refine (H4.out.rorder S4.out).mono ?_; rintro e W5 ⟨u5, rfl, h5, k5⟩; have K5 := Lib.hid k5; clear h5 k5)
        | (go_at_call 12; refine K5.out.mono ?_; rintro e W6 ⟨rfl, h6⟩; have H6 := Lib.hid h6; obtain ⟨a6, n6, c6⟩ := h6.cell; clear h6)
        | (go_at_call 15; refine H6.out.len.mono ?_; rintro e w' ⟨rfl, rfl⟩)
        | (go_at_call 16; refine H6.out.great.mono ?_; rintro e W7 ⟨rfl, h7⟩; have H7 := Lib.hid h7; clear h7)
        | (go_at_call 17; refine H7.out.rgreat.mono ?_; rintro e W8 ⟨rfl, h8⟩; have H8 := Lib.hid h8; clear h8))
      all_goals
        go_wp2
        go_roundw
        case rel => exact ⟨i + 1, rfl, HI.out, ls1, mk1, H8.out⟩
        case measure =>
          have := HI.out
          show A.length - (intOf (Value.int .i64 ((i : Int) + 1))).toNat < A.length - (intOf (Value.int .i64 (i : Int))).toNat
          simp only [intOf]
          omega
    · have hlt : ¬ (i : Int) < A.length := by omega
      clear hi
      go_wp2_with (go_at_call 9; refine (awake_any _).mono ?_; rintro e W5 ⟨rfl, g5⟩; have G5 := Lib.hid g5; clear g5)
      go_ret
      obtain ⟨_, ls, mk, hq⟩ := HR.out
      exact ⟨rfl, (hq.rest (fr_none G5.out)).bel⟩
end Go.Proofs.Ytbjpaemldnoinaa
