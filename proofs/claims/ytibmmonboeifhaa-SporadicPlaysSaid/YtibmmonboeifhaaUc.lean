/- The contracts of the ring's add and drop, of replenish and endChunk. -/
import Derived.Test.YtibmmonboeifhaaUb
import Derived.Deep.RegionHeld3
import Derived.Deep.Cut
import Derived.Deep.RegionWith
namespace Go.Proofs.Ytibmmonboeifhaa
open Go.RowKit
set_option linter.unusedVariables false

/-- Answers nothing; the server at B is q' now. -/
def To (B G : Nat) (q' : SQ) (W : World) (e : Ending) (w' : World) : Prop := (∃ v, e = .returned v) ∧ SAt w' B q' ∧ Fr (fun k => k = B ∨ k = G) W w'

theorem SAt.place1 {W : World} {B : Nat} {q : SQ} (h : SAt W B q) (j : Nat) (t : Int) : SAt (W.setCell ⟨q.G, j * 2, none⟩ (.int .i64 t)) B { q with pl := updP q.pl j (t, (q.pl j).2) } :=
  ⟨h.row.other h.ne _ _, by show RowAt _ _ _ _; rw [← plA_set1]; exact h.pla.set _ _, h.ne, h.cap0, h.cap32, h.fr, h.cnt⟩
theorem SAt.place2 {W : World} {B : Nat} {q : SQ} (h : SAt W B q) (j : Nat) (a : Int) : SAt (W.setCell ⟨q.G, j * 2 + 1, none⟩ (.int .i64 a)) B { q with pl := updP q.pl j ((q.pl j).1, a) } :=
  ⟨h.row.other h.ne _ _, by show RowAt _ _ _ _; rw [← plA_set2]; exact h.pla.set _ _, h.ne, h.cap0, h.cap32, h.fr, h.cnt⟩
theorem updP_two (pl : Nat → Int × Int) (j : Nat) (t a : Int) : updP (updP pl j (t, (pl j).2)) j ((updP pl j (t, (pl j).2) j).1, a) = updP pl j (t, a) := by
  funext i; rw [updP_same, updP, updP, updP]; split <;> rfl
theorem SAt.place {W : World} {B : Nat} {q : SQ} (h : SAt W B q) (j : Nat) (t a : Int) : SAt ((W.setCell ⟨q.G, j * 2, none⟩ (.int .i64 t)).setCell ⟨q.G, j * 2 + 1, none⟩ (.int .i64 a)) B { q with pl := updP q.pl j (t, a) } := by
  have := (h.place1 j t).place2 j a
  rw [show (_ : Nat → Int × Int) = _ from updP_two q.pl j t a] at this
  exact this
/-- drop -/
def dropQ (q : SQ) : SQ := { q with front := (q.front + 1) % q.cap, count := q.count - 1 }
theorem drop_any {W : World} {B : Nat} {q : SQ} (h : SAt W B q) (h0 : 0 < q.count) : Calls Try.prog 100 #[.pointer (some ⟨B, 3, none⟩)] W (To B q.G (dropQ q) W) := by
  have c3 : W.cell? ⟨B, 3, none⟩ = some (.slice (some ⟨q.G, 0, none⟩) q.cap q.cap) := h.row.cell 3
  have c4 : W.cell? ⟨B, 4, none⟩ = some (.int .i64 (q.front : Int)) := h.row.cell 4
  have c5 : W.cell? ⟨B, 5, none⟩ = some (.int .i64 (q.count : Int)) := h.row.cell 5
  have f4 : W.frozen? ⟨B, 4, none⟩ = false := h.row.frozen 4
  have f5 : W.frozen? ⟨B, 5, none⟩ = false := h.row.frozen 5
  have k1 := h.cap0
  have k2 := h.cap32
  have k3 := h.fr
  have k4 := h.cnt
  have m0 : (0 : Int) < q.cap := by omega
  have m1 : (q.cap : Int) ≤ 32 := by omega
  have m2 : (0 : Int) ≤ (q.front : Int) + 1 := by omega
  have m3 : (q.front : Int) + 1 ≤ 64 := by omega
  have m4 : ¬ ((q.cap : Int) = 0) := by omega
  have m8 : (1 : Int) ≤ q.count := by omega
  have m9 : (q.count : Int) ≤ 32 := by omega
  have HH := Lib.hid h
  clear h k1 k2 k3 k4
  go_enter Try.func100, Try.ntmps100
  go_wp2
  go_region
  all_goals
    go_wp2
    go_end0
    have h1 := HH.out.set 4 (.int .i64 ((((q.front + 1) % q.cap : Nat)) : Int)) { q with front := (q.front + 1) % q.cap } rfl rfl rfl rfl (Nat.mod_lt _ HH.out.cap0) HH.out.cnt
    have h2 := h1.set 5 (.int .i64 ((q.count - 1 : Nat) : Int)) (dropQ q) rfl rfl rfl rfl (Nat.mod_lt _ HH.out.cap0) (Nat.le_trans (Nat.sub_le _ _) HH.out.cnt)
    rw [show (((q.front + 1) % q.cap : Nat) : Int) = ((q.front : Int) + 1) % q.cap from by simp, show ((q.count - 1 : Nat) : Int) = (q.count : Int) - 1 from by omega] at h2
    exact ⟨⟨_, rfl⟩, h2.rest (Fr.drew _ _), ((Fr.set _ _ _ _ (.inl rfl)).trans (Fr.set _ _ _ _ (.inl rfl))).trans (Fr.drew _ _)⟩

/-- add -/
def addQ (q : SQ) (t a : Int) : SQ := { q with count := q.count + 1, pl := updP q.pl ((q.front + q.count) % q.cap) (t, a) }
theorem add_any {W : World} {B : Nat} {q : SQ} (h : SAt W B q) (t a : Int) (h0 : q.count < q.cap) : Calls Try.prog 94 #[.pointer (some ⟨B, 3, none⟩), .agg #[.int .i64 t, .int .i64 a]] W (To B q.G (addQ q t a) W) := by
  have h1 := h.rest (Fr.alloc _ W (.cells #[.int .i64 t, .int .i64 a] 75))
  have HR := Lib.hid (RowAt.new W 75 #[.int .i64 t, .int .i64 a])
  have HF := Lib.hid (Fr.alloc (fun k => k = B ∨ k = q.G) W (.cells #[.int .i64 t, .int .i64 a] 75))
  have m8 : (0 : Int) ≤ q.count := by omega
  have m9 : (q.count : Int) < 32 := by have := h.cap32; omega
  have HB := Lib.hid h.row.lt
  have HH := Lib.hid h1
  have H0 := Lib.hid h0
  clear h h1 h0
  go_enter Try.func94, Try.ntmps94
  go_upto_region 1 with (fail)
  generalize World.alloc W _ = W1 at HR HF HH ⊢
  have HNE : Hid (W.heap.size ≠ B) := Nat.ne_of_gt HB.out
  generalize W.heap.size = b at HR HNE ⊢
  have c5 : W1.cell? ⟨B, 5, none⟩ = some (.int .i64 (q.count : Int)) := HH.out.row.cell 5
  have f5 : W1.frozen? ⟨B, 5, none⟩ = false := HH.out.row.frozen 5
  go_upto_region 2 with (fail)
  have h2 := HH.out.set 5 (.int .i64 ((q.count : Int) + 1)) { q with count := q.count + 1 } rfl rfl rfl rfl HH.out.fr H0.out
  have HR2 := Lib.hid (HR.out.other HNE.out 5 (.int .i64 ((q.count : Int) + 1)))
  have HF2 := Lib.hid (HF.out.trans (Fr.set W1 B 5 (.int .i64 ((q.count : Int) + 1)) (.inl rfl)))
  have H2 := Lib.hid h2
  clear h2 c5 f5 HH HR HF
  generalize World.setCell W1 _ _ = W2 at H2 HR2 HF2 ⊢
  have HL : Hid (∀ W2, SAt W2 B { q with count := q.count + 1 } → Calls Try.prog 95 #[.pointer (some ⟨B, 3, none⟩)] W2 (Qu (.pointer (some ⟨q.G, (q.front + q.count) % q.cap * 2, none⟩)) W2)) := fun W2 h => last_any h (Nat.succ_pos _)
  have hj : (q.front + q.count) % q.cap < q.cap := Nat.mod_lt _ H2.out.cap0
  have d1 : W2.cell? ⟨b, 0, none⟩ = some (.int .i64 t) := HR2.out.cell 0
  have d2 : W2.cell? ⟨b, 1, none⟩ = some (.int .i64 a) := HR2.out.cell 1
  have d3 := H2.out.p1 _ hj
  have d4 := H2.out.p2 _ hj
  have f3 : W2.frozen? ⟨q.G, (q.front + q.count) % q.cap * 2, none⟩ = false := H2.out.pla.frozen _
  have f4 : W2.frozen? ⟨q.G, (q.front + q.count) % q.cap * 2 + 1, none⟩ = false := H2.out.pla.frozen _
  have HJ := Lib.hid hj
  clear hj
  simp only at d3 d4
  go_region_with (go_at_call 95; refine (HL.out _ (H2.out.rest (Fr.drew _ _))).mono ?_; rintro e w' ⟨rfl, n, rfl⟩)
  all_goals
    go_wp2
    go_end0
    exact ⟨⟨_, rfl⟩, (H2.out.rest (Fr.drewN _ _ _)).place _ t a, (HF2.out.trans (Fr.drewN _ _ _)).trans ((Fr.set _ _ _ _ (.inr rfl)).trans (Fr.set _ _ _ _ (.inr rfl)))⟩
end Go.Proofs.Ytibmmonboeifhaa
