/- The contract of Replenishments. -/
import Derived.Test.YtibmmonboeifhaaUg
namespace Go.Proofs.Ytibmmonboeifhaa
open Go.RowKit
set_option linter.unusedVariables false

theorem info_rep : (Try.prog.info? 75).map (fun i => (i.zero, i.size, i.bytes)) = some (some (.agg #[.int .i64 0, .int .i64 0]), 2, 16) := by kernel_rfl
/-- A slice that holds these replenishments. -/
def LiN (w : World) (g : Nat) (l : List (Int × Int)) : Prop := ∀ i x, l[i]? = some x → w.cell? ⟨g, i * 2, none⟩ = some (.int .i64 x.1) ∧ w.cell? ⟨g, i * 2 + 1, none⟩ = some (.int .i64 x.2)
theorem row_of_own {w : World} {g n size : Nat} {t : TypeId} {base : Nat} {xs : List Value} (h : w.ownsRow base t size (.slice (some ⟨g, 0, none⟩) n n) n xs) : ∃ cur : Array Value, RowAt w g t cur ∧ cur.size = n * size ∧ cur.toList = xs := by
  rcases h.2 with h | ⟨g', cap, cur, h1, _, h3, _, _, h6, h7⟩
  · cases h.1
  · injection h1 with h1 _ h1'
    injection h1 with h1
    injection h1 with h1
    subst h1 h1'
    exact ⟨cur, h3, h6, by rw [← h7, List.take_of_length_le (by simp [h6])]⟩
/-- What holds at the head of a round. -/
def LisI (W0 : World) (B : Nat) (q : SQ) (g k : Nat) (wr : World) : Prop := ∃ cur : Array Value, RowAt wr g 75 cur ∧ cur.size = q.count * 2 ∧ (∀ i x, i < k → (lst q)[i]? = some x → cur[i * 2]? = some (.int .i64 x.1) ∧ cur[i * 2 + 1]? = some (.int .i64 x.2)) ∧ SAt wr B q ∧ Below W0.heap.size W0 wr ∧ k ≤ q.count ∧ W0.heap.size ≤ g

set_option maxHeartbeats 1000000 in
theorem list_any {W : World} {B : Nat} {q : SQ} (h : SAt W B q) : Calls Try.prog 68 #[.pointer (some ⟨B, 3, none⟩)] W fun e w' => ∃ g, e = .returned (.slice (some ⟨g, 0, none⟩) q.count q.count) ∧ W.heap.size ≤ g ∧ LiN w' g (lst q) ∧ Below W.heap.size W w' := by
  have c5 : W.cell? ⟨B, 5, none⟩ = some (.int .i64 (q.count : Int)) := h.row.cell 5
  have k1 := h.cnt
  have k2 := h.cap32
  have m1 : (q.count : Int) ≤ 32 := by omega
  have m0 : (0 : Int) ≤ q.count := by omega
  obtain ⟨i0, hi0, hz0, hz1, hz2⟩ := info_parts info_rep
  have HI0 := Lib.hid hi0
  have HZ0 := Lib.hid hz0
  have HZ1 := Lib.hid hz1
  have HZ2 := Lib.hid hz2
  have HH := Lib.hid h
  have HK : Hid (q.count ≤ 32) := by show _ ≤ _; omega
  clear h hi0 hz0 hz1 hz2 k1 k2
  go_enter Try.func68, Try.ntmps68
  go_wp2_with (at_make; refine wpList_make_full _ rfl _ _ 61 rfl W.heap.size 75 i0 (.agg #[.int .i64 0, .int .i64 0]) 2 Try.underlying61 HI0.out HZ0.out HZ1.out .i64 .i64 (q.count : Int) (q.count : Int) q.count rfl rfl rfl rfl (by rw [HZ2.out]; have := HK.out; omega) (by have := HK.out; unfold maxLen; omega) (Nat.le_refl _) ?_; intro w1 o1 g1; have HO := Lib.hid o1; have HG := Lib.hid g1; clear o1 g1 c5)
  have HL : Hid (LisI W B q W.heap.size 0 w1) := by
    obtain ⟨cur, h1, h2, _⟩ := row_of_own HO.out
    exact ⟨cur, h1, h2, fun i x hi => absurd hi (Nat.not_lt_zero _), HH.out.rest (Fr.grown HG.out (fun k e => by cases e)), ⟨HG.out.os, HG.out.tape, HG.out.output, HG.out.size, fun k hk => HG.out.block k hk (by simp)⟩, Nat.zero_le _, Nat.le_refl _⟩
  have HBN : Hid (B ≠ W.heap.size) := Nat.ne_of_lt HH.out.row.lt
  have HGN : Hid (q.G ≠ W.heap.size) := Nat.ne_of_lt HH.out.pla.lt
  clear HO HG
  generalize hgg : W.heap.size = g at HL HBN HGN ⊢
  have HGG := Lib.hid hgg
  clear hgg
  go_loopw [4, 12] (fun v4 vi wr => ∃ k : Nat, vi = .int .i64 k ∧ Hid (LisI W B q g k wr)) (fun v4 vi _ => q.count - (intOf vi).toNat)
  case atStart => exact ⟨0, rfl, HL.out⟩
  case round =>
    obtain ⟨k, rfl, HR⟩ := hrel
    by_cases hk : k < q.count
    · have HKL := Lib.hid hk
      have i0' : (0 : Int) ≤ k := by omega
      have i1 : (k : Int) < q.count := by omega
      obtain ⟨cur, h1, h2, h3, h4, h5, h6, h7⟩ := HR.out
      have HA : Hid (∀ W, SAt W B q → Calls Try.prog 91 #[.pointer (some ⟨B, 3, none⟩), .int .i64 (k : Int)] W (Qu (.pointer (some ⟨q.G, (q.front + k) % q.cap * 2, none⟩)) W)) := fun W h => at_any h k (by have := HK.out; omega)
      have hj : (q.front + k) % q.cap < q.cap := Nat.mod_lt _ h4.cap0
      have p1 := h4.p1 _ hj
      have p2 := h4.p2 _ hj
      have d0 : wr.cell? ⟨g, k * 2, none⟩ = some (cur[k * 2]'(by omega)) := by rw [h1.cell]; exact Array.getElem?_eq_getElem _
      have d1 : wr.cell? ⟨g, k * 2 + 1, none⟩ = some (cur[k * 2 + 1]'(by omega)) := by rw [h1.cell]; exact Array.getElem?_eq_getElem _
      have f0 : wr.frozen? ⟨g, k * 2, none⟩ = false := h1.frozen _
      have f1 : wr.frozen? ⟨g, k * 2 + 1, none⟩ = false := h1.frozen _
      generalize cur[k * 2]'_ = v0 at d0
      generalize cur[k * 2 + 1]'_ = v1 at d1
      have H4 := Lib.hid h4
      have HX := Lib.hid (lst_get q k hk)
      clear hk h1 h2 h3 h4 h5 h6 h7 hj HL
      go_wp2_with (go_at_call 91; refine (HA.out _ H4.out).mono ?_; rintro e w' ⟨rfl, n, rfl⟩)
      go_roundw
      case rel =>
        refine ⟨k + 1, rfl, ?_⟩
        obtain ⟨cur, h1, h2, h3, h4, h5, h6, h7⟩ := HR.out
        have hkl := HKL.out
        have r1 : RowAt (wr.drewN n) g 75 cur := h1
        refine ⟨_, (r1.set (k * 2) _).set (k * 2 + 1) _, by rw [Array.size_setIfInBounds, Array.size_setIfInBounds]; exact h2, fun i x hi hx => ?_, ?_, ?_, hkl, h7⟩
        · by_cases hik : i = k
          · subst hik
            rw [HX.out] at hx
            injection hx with hx
            subst hx
            refine ⟨?_, ?_⟩
            · rw [Array.getElem?_setIfInBounds, if_neg (by omega), Array.getElem?_setIfInBounds, if_pos rfl, if_pos (by omega)]
            · rw [Array.getElem?_setIfInBounds, if_pos rfl, if_pos (by rw [Array.size_setIfInBounds]; omega)]
          · rw [Array.getElem?_setIfInBounds, if_neg (by omega), Array.getElem?_setIfInBounds, if_neg (by omega), Array.getElem?_setIfInBounds, if_neg (by omega), Array.getElem?_setIfInBounds, if_neg (by omega)]
            exact h3 i x (by omega) hx
        · exact (h4.drewN n).keep (S := fun k => k = g) ((Fr.set (S := fun k => k = g) _ g _ _ rfl).trans (Fr.set (S := fun k => k = g) _ g _ _ rfl)) HBN.out HGN.out
        · exact Fr.below (S := fun k => k = g) h5 ((Fr.drewN _ _ _).trans ((Fr.set (S := fun k => k = g) _ g _ _ rfl).trans (Fr.set (S := fun k => k = g) _ g _ _ rfl))) h5.size (fun i e => by rw [e]; exact h7)
      case measure =>
        have := HKL.out
        show q.count - (intOf (Value.int .i64 ((k : Int) + 1))).toNat < q.count - (intOf (Value.int .i64 (k : Int))).toNat
        simp only [intOf]
        omega
    · have hk' : k = q.count := by obtain ⟨_, _, _, _, _, _, h6, _⟩ := HR.out; omega
      subst hk'
      have hlt : ¬ (q.count : Int) < q.count := by omega
      clear hk
      go_wp2
      go_ret
      obtain ⟨cur, h1, h2, h3, h4, h5, h6, h7⟩ := HR.out
      refine ⟨g, rfl, Nat.le_of_eq HGG.out, fun i x hx => ?_, h5⟩
      have hi : i < q.count := by have := (List.getElem?_eq_some_iff.1 hx).1; rw [lst_len] at this; exact this
      rw [h1.cell, h1.cell]
      exact h3 i x hi hx
theorem repl_nil (w : World) : Calls Try.prog 32 #[.pointer none] w fun e w' => e = .returned (.slice none 0 0) ∧ w = w' := by
  go_enter Try.func32, Try.ntmps32
  go_wp2_with (go_at_call 67; refine (made_nil _).mono ?_; rintro e w' ⟨rfl, rfl⟩)
  go_ret
  exact ⟨rfl, rfl⟩
theorem SS.below {B G : Nat} {T : Int} {s : AQ} {W W' : World} (h : SS B G T s W) (hb : Below W.heap.size W W') : SS B G T s W' := by
  obtain ⟨h1, h2, h3⟩ := h.lt
  obtain ⟨h0, q, hq, rfl, rfl⟩ := h
  exact ⟨h0, q, ⟨hq.row.below hb h1, hq.pla.below hb h2, hq.ne, hq.cap0, hq.cap32, hq.fr, hq.cnt⟩, rfl, rfl⟩
def RepE (B G : Nat) (T : Int) (s : AQ) (W : World) (e : Ending) (w' : World) : Prop := ∃ g, e = .returned (.slice (some ⟨g, 0, none⟩) s.l.length s.l.length) ∧ W.heap.size ≤ g ∧ LiN w' g s.l ∧ SS B G T s w' ∧ Below W.heap.size W w'
theorem repl_any {W : World} {B G : Nat} {T : Int} {s : AQ} (h : SS B G T s W) : Calls Try.prog 32 #[.pointer (some ⟨B, 0, none⟩)] W (RepE B G T s W) := by
  obtain ⟨h1, _⟩ := h.calls
  have H1 := Lib.hid h1
  have HL : Hid (Calls Try.prog 68 #[.pointer (some ⟨B, 3, none⟩)] W (RepE B G T s W)) := by
    have h' := h
    obtain ⟨h0, q, hq, rfl, rfl⟩ := h
    refine (list_any hq).mono fun e w' ⟨g, he, hg, hl, hb⟩ => ⟨g, ?_, hg, hl, h'.below hb, hb⟩
    rw [he, show (ab q).l.length = q.count from lst_len q]
  clear h h1
  go_enter Try.func32, Try.ntmps32
  go_wp2_with (first
    | (go_at_call 67; refine H1.out.mono ?_; rintro e w' ⟨rfl, rfl⟩)
    | (go_at_call 68; refine HL.out.mono ?_; rintro e W1 ⟨g, rfl, hg, hl, hs, hb⟩; have HR := Lib.hid (And.intro hg (And.intro hl (And.intro hs hb))); clear hg hl hs hb))
  go_ret
  exact ⟨g, rfl, HR.out⟩
end Go.Proofs.Ytibmmonboeifhaa
