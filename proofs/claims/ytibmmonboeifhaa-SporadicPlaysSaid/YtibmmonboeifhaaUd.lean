/- The contracts of replenish and endChunk. -/
import Derived.Test.YtibmmonboeifhaaUc
namespace Go.Proofs.Ytibmmonboeifhaa
open Go.RowKit
set_option linter.unusedVariables false

/-- endChunk -/
def endQ (q : SQ) : SQ :=
  if q.count < q.cap then addQ { q with chk := 0 } (q.ran + 1 + q.per) q.chk
  else { q with chk := 0, pl := updP q.pl ((q.front + (q.count - 1)) % q.cap) (if (q.pl ((q.front + (q.count - 1)) % q.cap)).1 < q.ran + 1 + q.per then q.ran + 1 + q.per else (q.pl ((q.front + (q.count - 1)) % q.cap)).1, (q.pl ((q.front + (q.count - 1)) % q.cap)).2 + q.chk) }
theorem updP_three (pl : Nat → Int × Int) (j : Nat) (t b a : Int) : updP (updP pl j (t, b)) j ((updP pl j (t, b) j).1, a) = updP pl j (t, a) := by
  funext i; rw [updP_same, updP, updP, updP]; split <;> rfl
/-- Bounds of the numbers. -/
structure SB (q : SQ) : Prop where
  per0 : 0 ≤ q.per
  per1 : q.per ≤ 1000000
  chk0 : 0 ≤ q.chk
  chk1 : q.chk ≤ 1000000
  ran0 : -1 ≤ q.ran
  ran1 : q.ran ≤ 1099511627776
  bud0 : 0 ≤ q.bud
  bud1 : q.bud ≤ 1000000
  a0 : ∀ i, i < q.count → 0 ≤ (q.pl ((q.front + i) % q.cap)).2 ∧ (q.pl ((q.front + i) % q.cap)).2 ≤ 1000000
theorem end_new {W : World} {B : Nat} {q : SQ} (h : SAt W B q) (hb : SB q) (h0 : q.count < q.cap) : Calls Try.prog 72 #[.pointer (some ⟨B, 0, none⟩)] W (To B q.G (endQ q) W) := by
  have c0 : W.cell? ⟨B, 0, none⟩ = some (.int .i64 q.per) := h.row.cell 0
  have c6 : W.cell? ⟨B, 6, none⟩ = some (.int .i64 q.chk) := h.row.cell 6
  have c7 : W.cell? ⟨B, 7, none⟩ = some (.int .i64 q.ran) := h.row.cell 7
  have m1 := hb.per0
  have m2 := hb.per1
  have m3 := hb.ran0
  have m4 := hb.ran1
  have HB := Lib.hid h.row.lt
  have HG := Lib.hid h.pla.lt
  have HH := Lib.hid h
  have H0 := Lib.hid h0
  clear h hb h0
  go_enter Try.func72, Try.ntmps72
  have hB : B < W.heap.size := HB.out
  have hB2 : ¬ B = W.heap.size := by omega
  have hB3 : ∀ o i, (W.alloc o).cell? ⟨B, i, none⟩ = W.cell? ⟨B, i, none⟩ := fun o i => World.cell?_of_block (heap_alloc_old _ _ HB.out)
  go_wp2
  go_region
  clear c0 c6 c7 hB hB2 hB3
  have HW1 : Hid (RowAt (World.drew (W.alloc (.cells #[.int .i64 (q.ran + 1 + q.per), .int .i64 q.chk] 75))) W.heap.size 75 #[.int .i64 (q.ran + 1 + q.per), .int .i64 q.chk]) := RowAt.new W _ _
  have HF1 : Hid (Fr (fun k => k = B ∨ k = q.G) W (World.drew (W.alloc (.cells #[.int .i64 (q.ran + 1 + q.per), .int .i64 q.chk] 75)))) := (Fr.alloc _ W _).trans (Fr.drew _ _)
  have HS1 : Hid (SAt (World.drew (W.alloc (.cells #[.int .i64 (q.ran + 1 + q.per), .int .i64 q.chk] 75))) B q) := HH.out.rest ((Fr.alloc _ W _).trans (Fr.drew _ _))
  generalize World.drew _ = W1 at HW1 HF1 HS1 ⊢
  have HN1 : Hid (W.heap.size ≠ B) := by have := HB.out; show _ ≠ _; omega
  have HN2 : Hid (W.heap.size ≠ q.G) := by have := HG.out; show _ ≠ _; omega
  generalize W.heap.size = b at HW1 HN1 HN2 ⊢
  have c6 : W1.cell? ⟨B, 6, none⟩ = some (.int .i64 q.chk) := HS1.out.row.cell 6
  have f6 : W1.frozen? ⟨B, 6, none⟩ = false := HS1.out.row.frozen 6
  go_upto_region 2 with (fail)
  have HS2 : Hid (SAt (W1.setCell ⟨B, 6, none⟩ (.int .i64 0)) B { q with chk := 0 }) := HS1.out.set 6 (.int .i64 0) { q with chk := 0 } rfl rfl rfl rfl HS1.out.fr HS1.out.cnt
  have HW2 := Lib.hid (HW1.out.other HN1.out 6 (.int .i64 0))
  have HF2 := Lib.hid (HF1.out.trans (Fr.set W1 B 6 (.int .i64 0) (.inl rfl)))
  clear c6 f6 HW1 HF1 HS1
  generalize World.setCell W1 _ _ = W2 at HS2 HW2 HF2 ⊢
  have HFU : Hid (Calls Try.prog 93 #[.pointer (some ⟨B, 3, none⟩)] W2 (Qu (.bool false) W2)) := by
    have := full_any HS2.out
    rw [decide_eq_false (Nat.ne_of_lt H0.out)] at this; exact this
  have HAD : Hid (∀ W2, SAt W2 B { q with chk := 0 } → Calls Try.prog 94 #[.pointer (some ⟨B, 3, none⟩), .agg #[.int .i64 (q.ran + 1 + q.per), .int .i64 q.chk]] W2 (To B q.G (addQ { q with chk := 0 } (q.ran + 1 + q.per) q.chk) W2)) := fun W2 h => add_any h _ _ H0.out
  go_upto_region 3 with (go_at_call 93; refine HFU.out.mono ?_; rintro e w' ⟨rfl, n, rfl⟩)
  have HS3 := Lib.hid (HS2.out.rest (Fr.drewN _ _ n))
  have HW3 := Lib.hid (HW2.out.fr (Fr.drewN (fun _ => False) _ n) id)
  have HF3 := Lib.hid (HF2.out.trans (Fr.drewN _ _ n))
  clear HFU HS2 HW2 HF2
  generalize World.drewN W2 n = W3 at HS3 HW3 HF3 ⊢
  have d1 : W3.cell? ⟨b, 0, none⟩ = some (.int .i64 (q.ran + 1 + q.per)) := HW3.out.cell 0
  have d2 : W3.cell? ⟨b, 1, none⟩ = some (.int .i64 q.chk) := HW3.out.cell 1
  have HK : Hid (∀ W4, Fr (fun k => k = B ∨ k = q.G) W3.drew W4 → W4.cell? ⟨b, 0, none⟩ = some (.int .i64 (q.ran + 1 + q.per)) ∧ W4.cell? ⟨b, 1, none⟩ = some (.int .i64 q.chk)) := fun W4 h => by
    have h4 := (show RowAt W3.drew b _ _ from HW3.out).fr h (fun e => e.elim HN1.out HN2.out)
    exact ⟨h4.cell 0, h4.cell 1⟩
  go_region_with (go_at_call 94; refine (HAD.out _ (HS3.out.rest (Fr.drew _ _))).mono ?_; rintro e W4 ⟨⟨v, rfl⟩, s4, g4⟩; obtain ⟨k1, k2⟩ := HK.out _ g4)
  all_goals
    go_wp2
    refine bodyPost_ret (results_none rfl _ _ _) rfl ⟨⟨_, rfl⟩, by rw [endQ, if_pos H0.out]; exact s4, (HF3.out.trans (Fr.drew _ _)).trans g4⟩
set_option maxHeartbeats 1000000 in
theorem end_old {W : World} {B : Nat} {q : SQ} (h : SAt W B q) (hb : SB q) (h0 : q.count = q.cap) : Calls Try.prog 72 #[.pointer (some ⟨B, 0, none⟩)] W (To B q.G (endQ q) W) := by
  have c0 : W.cell? ⟨B, 0, none⟩ = some (.int .i64 q.per) := h.row.cell 0
  have c6 : W.cell? ⟨B, 6, none⟩ = some (.int .i64 q.chk) := h.row.cell 6
  have c7 : W.cell? ⟨B, 7, none⟩ = some (.int .i64 q.ran) := h.row.cell 7
  have m1 := hb.per0
  have m2 := hb.per1
  have m3 := hb.ran0
  have m4 := hb.ran1
  have HB := Lib.hid h.row.lt
  have HG := Lib.hid h.pla.lt
  have HH := Lib.hid h
  have HA0 := Lib.hid hb.a0
  have m5 := hb.chk0
  have m6 := hb.chk1
  have H0 := Lib.hid h0
  clear h hb h0
  go_enter Try.func72, Try.ntmps72
  have hB : B < W.heap.size := HB.out
  have hB2 : ¬ B = W.heap.size := by omega
  have hB3 : ∀ o i, (W.alloc o).cell? ⟨B, i, none⟩ = W.cell? ⟨B, i, none⟩ := fun o i => World.cell?_of_block (heap_alloc_old _ _ HB.out)
  go_wp2
  go_region
  clear c0 c6 c7 hB hB2 hB3
  have HW1 : Hid (RowAt (World.drew (W.alloc (.cells #[.int .i64 (q.ran + 1 + q.per), .int .i64 q.chk] 75))) W.heap.size 75 #[.int .i64 (q.ran + 1 + q.per), .int .i64 q.chk]) := RowAt.new W _ _
  have HF1 : Hid (Fr (fun k => k = B ∨ k = q.G) W (World.drew (W.alloc (.cells #[.int .i64 (q.ran + 1 + q.per), .int .i64 q.chk] 75)))) := (Fr.alloc _ W _).trans (Fr.drew _ _)
  have HS1 : Hid (SAt (World.drew (W.alloc (.cells #[.int .i64 (q.ran + 1 + q.per), .int .i64 q.chk] 75))) B q) := HH.out.rest ((Fr.alloc _ W _).trans (Fr.drew _ _))
  generalize World.drew _ = W1 at HW1 HF1 HS1 ⊢
  have HN1 : Hid (W.heap.size ≠ B) := by have := HB.out; show _ ≠ _; omega
  have HN2 : Hid (W.heap.size ≠ q.G) := by have := HG.out; show _ ≠ _; omega
  generalize W.heap.size = b at HW1 HN1 HN2 ⊢
  have c6 : W1.cell? ⟨B, 6, none⟩ = some (.int .i64 q.chk) := HS1.out.row.cell 6
  have f6 : W1.frozen? ⟨B, 6, none⟩ = false := HS1.out.row.frozen 6
  go_upto_region 2 with (fail)
  have HS2 : Hid (SAt (W1.setCell ⟨B, 6, none⟩ (.int .i64 0)) B { q with chk := 0 }) := HS1.out.set 6 (.int .i64 0) { q with chk := 0 } rfl rfl rfl rfl HS1.out.fr HS1.out.cnt
  have HW2 := Lib.hid (HW1.out.other HN1.out 6 (.int .i64 0))
  have HF2 := Lib.hid (HF1.out.trans (Fr.set W1 B 6 (.int .i64 0) (.inl rfl)))
  clear c6 f6 HW1 HF1 HS1
  generalize World.setCell W1 _ _ = W2 at HS2 HW2 HF2 ⊢
  have HFU : Hid (Calls Try.prog 93 #[.pointer (some ⟨B, 3, none⟩)] W2 (Qu (.bool true) W2)) := by
    have := full_any HS2.out
    rw [decide_eq_true H0.out] at this; exact this
  have hj : (q.front + (q.count - 1)) % q.cap < q.cap := Nat.mod_lt _ HS2.out.cap0
  have HLA : Hid (∀ W2, SAt W2 B { q with chk := 0 } → Calls Try.prog 95 #[.pointer (some ⟨B, 3, none⟩)] W2 (Qu (.pointer (some ⟨q.G, (q.front + (q.count - 1)) % q.cap * 2, none⟩)) W2)) := fun W2 h => last_any (q := { q with chk := 0 }) h (by have : 0 < q.cap := h.cap0; have := H0.out; show 0 < q.count; omega)
  go_upto_region 5 with (first
    | (go_at_call 93; refine HFU.out.mono ?_; rintro e w' ⟨rfl, n, rfl⟩; have HS2' := Lib.hid (HS2.out.rest (Fr.drewN _ _ n)))
    | (go_at_call 95; refine (HLA.out _ HS2'.out).mono ?_; rintro e w' ⟨rfl, n2, rfl⟩))
  have HS3 := Lib.hid (HS2.out.rest (Fr.drewN _ _ (n + n2)))
  have HW3 := Lib.hid (HW2.out.fr (Fr.drewN (fun _ => False) _ (n + n2)) id)
  have HF3 := Lib.hid (HF2.out.trans (Fr.drewN _ _ (n + n2)))
  clear HFU HS2 HW2 HF2 HS2' HLA
  generalize World.drewN W2 (n + n2) = W3 at HS3 HW3 HF3 ⊢
  have HJ := Lib.hid hj
  have d1 : W3.cell? ⟨b, 0, none⟩ = some (.int .i64 (q.ran + 1 + q.per)) := HW3.out.cell 0
  have d3 : W3.cell? ⟨q.G, (q.front + (q.count - 1)) % q.cap * 2, none⟩ = some (.int .i64 (q.pl ((q.front + (q.count - 1)) % q.cap)).1) := HS3.out.p1 _ hj
  have f3 : W3.frozen? ⟨q.G, (q.front + (q.count - 1)) % q.cap * 2, none⟩ = false := HS3.out.pla.frozen _
  have A0 := HA0.out (q.count - 1) (by have : 0 < q.cap := HS3.out.cap0; have := H0.out; omega)
  obtain ⟨A1, A2⟩ := A0
  clear hj
  generalize hjj : (q.front + (q.count - 1)) % q.cap = j at d3 f3 HJ A1 A2 ⊢
  have HJE := Lib.hid hjj
  clear hjj
  go_region
  all_goals
    have HS4 : Hid (SAt (World.drew (W3.setCell ⟨q.G, j * 2, none⟩ (.int .i64 (if (q.pl j).1 < q.ran + 1 + q.per then q.ran + 1 + q.per else (q.pl j).1)))) B { q with chk := 0, pl := updP q.pl j (if (q.pl j).1 < q.ran + 1 + q.per then q.ran + 1 + q.per else (q.pl j).1, (q.pl j).2) }) := (HS3.out.place1 j _).rest (Fr.drew _ _)
    have HW4 : Hid (RowAt (World.drew (W3.setCell ⟨q.G, j * 2, none⟩ (.int .i64 (if (q.pl j).1 < q.ran + 1 + q.per then q.ran + 1 + q.per else (q.pl j).1)))) b 75 #[.int .i64 (q.ran + 1 + q.per), .int .i64 q.chk]) := HW3.out.other HN2.out _ _
    have HF4 : Hid (Fr (fun k => k = B ∨ k = q.G) W (World.drew (W3.setCell ⟨q.G, j * 2, none⟩ (.int .i64 (if (q.pl j).1 < q.ran + 1 + q.per then q.ran + 1 + q.per else (q.pl j).1))))) := (HF3.out.trans (Fr.set _ _ _ _ (.inr rfl))).trans (Fr.drew _ _)
    go_upto_region 6 with (fail)
    clear d1 d3 f3 HW3 HF3 HS3
    generalize World.drew (W3.setCell _ _) = W4 at HS4 HW4 HF4 ⊢
    have d1 : W4.cell? ⟨b, 1, none⟩ = some (.int .i64 q.chk) := HW4.out.cell 1
    have d3 : W4.cell? ⟨q.G, j * 2 + 1, none⟩ = some (.int .i64 (q.pl j).2) := by have := HS4.out.p2 j HJ.out; simpa [updP] using this
    have f3 : W4.frozen? ⟨q.G, j * 2 + 1, none⟩ = false := HS4.out.pla.frozen _
    go_region
    all_goals
      go_wp2
      all_goals
        go_end0
        refine ⟨⟨_, rfl⟩, ?_, HF4.out.trans ((Fr.set _ _ _ _ (.inr rfl)).trans (Fr.drew _ _))⟩
        rw [endQ, if_neg (by rw [H0.out]; exact Nat.lt_irrefl _), HJE.out]
        have := (HS4.out.place2 j ((q.pl j).2 + q.chk)).rest (Fr.drew _ _)
        rw [show (_ : Nat → Int × Int) = _ from updP_three q.pl j _ _ _] at this
        exact this
theorem end_any {W : World} {B : Nat} {q : SQ} (h : SAt W B q) (hb : SB q) : Calls Try.prog 72 #[.pointer (some ⟨B, 0, none⟩)] W (To B q.G (endQ q) W) := by
  by_cases h0 : q.count < q.cap
  · exact end_new h hb h0
  · exact end_old h hb (by have := h.cnt; omega)
end Go.Proofs.Ytibmmonboeifhaa
