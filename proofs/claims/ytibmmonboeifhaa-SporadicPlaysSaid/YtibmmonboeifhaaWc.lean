/- The reference's end. -/
import Derived.Test.YtibmmonboeifhaaWb
import Derived.Deep.RegionHeld3
import Derived.Deep.AppendLies
import Derived.Deep.RegionLaw
namespace Go.Proofs.Ytibmmonboeifhaa
open Go.RowKit
set_option linter.unusedVariables false

theorem news_two (W : World) (t : TypeId) (cs : List Value) : ∀ j u, cs[j]? = some u → (World.drew (W.alloc (.cells cs.toArray t))).cell? ((⟨W.heap.size, 0, none⟩ : Addr).add j) = some u := fun j u hj => by
  rw [Addr.add_mid, Nat.zero_add]
  have := (RowAt.new W t cs.toArray).cell j
  rw [show (World.drew (W.alloc (.cells cs.toArray t))).cell? ⟨W.heap.size, j, none⟩ = (W.alloc (.cells cs.toArray t)).cell? ⟨W.heap.size, j, none⟩ from rfl, this]
  simpa using hj
/-- What an append to the server's own list keeps. -/
theorem app_keep {W2 w1 : World} {lo B b gg cap' n : Nat} {t t2 : TypeId} {cs ds : Array Value} {v : Value} {xs ys : List Value} {o : Obj} (hB : RowAt W2 B t cs) (hb : RowAt W2 b t2 ds) (ho : W2.ownsRow lo 105 2 v n xs) (hne : v.ownBlock ≠ some B) (hno : ∀ k, v.ownBlock = some k → k ≠ b)
    (hown : w1.ownsRow lo 105 2 (.slice (some ⟨gg, 0, none⟩) (n + 1) cap') (n + 1) ys) (hg : (World.drew (W2.alloc o)).grownBy w1 v.ownBlock) (hat : v.ownBlock = some gg ∨ gg = W2.heap.size + 1) :
    RowAt w1 B t cs ∧ RowAt w1 b t2 ds ∧ Hid (gg ≠ B ∧ w1.ownsRow lo 105 2 (.slice (some ⟨gg, 0, none⟩) (n + 1) cap') (n + 1) ys ∧ Fr (fun k => lo ≤ k) W2 w1) := by
  have hf : Fr (fun k => v.ownBlock = some k) W2 w1 := (Fr.alloc _ _ _).trans ((Fr.drew _ _).trans (Fr.grown hg fun k e => e))
  refine ⟨hB.fr hf hne, hb.fr hf (fun e => hno b e rfl), ?_, hown, hf.mono fun k _ e => (ho.lt k e).1⟩
  rcases hat with e | e
  · exact fun e2 => hne (by rw [e, e2])
  · have := hB.lt; omega
set_option maxRecDepth 100000 in
set_option maxHeartbeats 2000000 in
theorem rend_new {W : World} {lo B : Nat} {T b0 : Int} {s : AQ} (h : RS lo B T b0 s W) (hc : 0 < s.chk) (hl : s.l.length < s.cap) : Calls Try.prog 90 #[.pointer (some ⟨B, 0, none⟩)] W (ToR lo B T b0 (endA s) W) := by
  obtain ⟨q, hq, h⟩ := h
  have HQ := Lib.hid hq
  have HH := Lib.hid h
  have HL := Lib.hid hl
  have HC := Lib.hid hc
  obtain ⟨o1, o2⟩ := h.op hc
  have c1 : W.cell? ⟨B, 1, none⟩ = some (.int .i64 s.per) := h.row.cell 1
  have c7 : W.cell? ⟨B, 7, none⟩ = some (.int .i64 (s.ran - s.chk + 1)) := by rw [← o2]; exact h.row.cell 7
  have c8 : W.cell? ⟨B, 8, none⟩ = some (.int .i64 s.ran) := by rw [← o1]; exact h.row.cell 8
  have p0 := h.ai.per0
  have p1 := h.ai.per1
  have r0 := h.ai.ran0
  have r1 := h.ai.ran1
  have k0 := h.ai.chk0
  have k1 : s.chk ≤ 1000000 := by have := h.ai.sum; have := h.ai.bud0; have := sumL_nonneg h.ai.amt; have := h.ai.tot; omega
  have hB : B < W.heap.size := h.row.lt
  have hB3 : ∀ o i, (W.alloc o).cell? ⟨B, i, none⟩ = W.cell? ⟨B, i, none⟩ := fun o i => World.cell?_of_block (heap_alloc_old _ _ HH.out.row.lt)
  clear h hq hl hc o1 o2
  go_enter Try.func90, Try.ntmps90
  go_wp2
  go_region
  rw [show s.ran - (s.ran - s.chk + 1) + 1 = s.chk from by omega]
  clear c1 c7 c8 hB hB3
  have HW1 : Hid (RowAt (World.drew (W.alloc (.cells #[.int .i64 (s.ran + 1 + s.per), .int .i64 s.chk] 105))) W.heap.size 105 #[.int .i64 (s.ran + 1 + s.per), .int .i64 s.chk]) := RowAt.new W _ _
  have HF1 : Hid (Fr (fun k => lo ≤ k) W (World.drew (W.alloc (.cells #[.int .i64 (s.ran + 1 + s.per), .int .i64 s.chk] 105)))) := (Fr.alloc _ W _).trans (Fr.drew _ _)
  have HS1 : Hid (RAt (World.drew (W.alloc (.cells #[.int .i64 (s.ran + 1 + s.per), .int .i64 s.chk] 105))) lo B T q s) := HH.out.rest ((Fr.alloc _ W _).trans (Fr.drew _ _))
  generalize World.drew _ = W1 at HW1 HF1 HS1 ⊢
  have HNB : Hid (W.heap.size ≠ B) := Nat.ne_of_gt HH.out.row.lt
  have HNO : Hid (∀ k, q.v.ownBlock = some k → k ≠ W.heap.size) := fun k e => Nat.ne_of_lt (HH.out.own.lt k e).2
  generalize W.heap.size = b at HW1 HNB HNO ⊢
  have c6 : W1.cell? ⟨B, 6, none⟩ = some (.bool (decide (0 < s.chk))) := HS1.out.row.cell 6
  have f6 : W1.frozen? ⟨B, 6, none⟩ = false := HS1.out.row.frozen 6
  go_upto_region 2 with (fail)
  have HR2 : Hid (RowAt (W1.setCell ⟨B, 6, none⟩ (.bool false)) B 103 (rCells q s false)) := HS1.out.row.set 6 (.bool false)
  have HW2 := Lib.hid (HW1.out.other HNB.out 6 (.bool false))
  have HF2 : Hid (Fr (fun k => lo ≤ k) W (W1.setCell ⟨B, 6, none⟩ (.bool false))) := HF1.out.trans (Fr.set _ _ _ _ HH.out.lo)
  have HO2 : Hid ((W1.setCell ⟨B, 6, none⟩ (.bool false)).ownsRow lo 105 2 q.v s.l.length (encP s.l)) := own_fr2 HS1.out.own (Fr.set (S := fun k => k = B) _ _ _ _ rfl) (fun k e e2 => HH.out.ne (by rw [e, e2]))
  clear c6 f6 HW1 HF1 HS1
  generalize World.setCell W1 _ _ = W2 at HR2 HW2 HF2 HO2 ⊢
  obtain ⟨av, cv, hv⟩ := own_shape HO2.out
  have HV := Lib.hid hv
  clear hv
  have c5 : W2.cell? ⟨B, 5, none⟩ = some (.slice av s.l.length cv) := by rw [← HV.out]; exact HR2.out.cell 5
  have c2 : W2.cell? ⟨B, 2, none⟩ = some (.int .i64 (s.cap : Int)) := HR2.out.cell 2
  have hlc : (s.l.length : Int) < s.cap := by have := HL.out; omega
  have f5 : W2.frozen? ⟨B, 5, none⟩ = false := HR2.out.frozen 5
  have d0 : W2.cell? ⟨b, 0, none⟩ = some (.int .i64 (s.ran + 1 + s.per)) := HW2.out.cell 0
  have d1 : W2.cell? ⟨b, 1, none⟩ = some (.int .i64 s.chk) := HW2.out.cell 1
  obtain ⟨i0, hi0, hz0, hz1, hz2⟩ := info_parts info_rrep
  have HI0 := Lib.hid hi0
  have HZ0 := Lib.hid hz0
  have HZ1 := Lib.hid hz1
  have HZ2 := Lib.hid hz2
  clear hi0 hz0 hz1 hz2
  have hB : B < W2.heap.size := HR2.out.lt
  have hb' : b < W2.heap.size := HW2.out.lt
  have hB3 : ∀ o i, (W2.alloc o).cell? ⟨B, i, none⟩ = W2.cell? ⟨B, i, none⟩ := fun o i => World.cell?_of_block (heap_alloc_old _ _ HR2.out.lt)
  have hb3 : ∀ o i, (W2.alloc o).cell? ⟨b, i, none⟩ = W2.cell? ⟨b, i, none⟩ := fun o i => World.cell?_of_block (heap_alloc_old _ _ HW2.out.lt)
  go_upto_region 4 with (fail)
  have HO3 : Hid (W2.ownsRow lo 105 2 (.slice av s.l.length cv) s.l.length (encP s.l)) := by show World.ownsRow _ _ _ _ _ _ _; rw [← HV.out]; exact HO2.out
  have HLO : Hid (lo ≤ W2.heap.size) := by have := HR2.out.lt; have := HH.out.lo; show lo ≤ _; omega
  have H32 : Hid (s.l.length + 1 ≤ 32) := by have := HL.out; have := HH.out.c32; show _ ≤ _; omega
  have HNE1 : Hid ((Value.slice av s.l.length cv).ownBlock ≠ some B) := by show _ ≠ _; rw [← HV.out]; exact HH.out.ne
  have HNO1 : Hid (∀ k, (Value.slice av s.l.length cv).ownBlock = some k → k ≠ b) := by show ∀ _, _; rw [← HV.out]; exact HNO.out
  have HONE : Hid (∀ u ∈ [Value.int .i64 (s.ran + 1 + s.per), Value.int .i64 s.chk], u.oneCell' = true) := by show ∀ u ∈ _, _; simp [Value.oneCell']
  have HMAX : Hid (s.l.length + 1 ≤ maxLen) := by have := H32.out; show _ ≤ _; unfold maxLen; omega
  have HBYT : Hid ((s.l.length + 1) * 16 ≤ 140737488355328) := by have := H32.out; show _ ≤ _; omega
  have HSZ : Hid ((World.drew (W2.alloc (.cells #[.int .i64 (s.ran + 1 + s.per), .int .i64 s.chk] 105))).heap.size = W2.heap.size + 1) := by show (W2.alloc _).heap.size = _; simp
  have HLO4 : Hid (lo ≤ (World.drew (W2.alloc (.cells #[.int .i64 (s.ran + 1 + s.per), .int .i64 s.chk] 105))).heap.size) := by have := HLO.out; rw [HSZ.out]; show _ ≤ _; omega
  go_region_law
    ((refine step_append_lies (World.drew (World.alloc W2 (.cells #[.int .i64 (s.ran + 1 + s.per), .int .i64 s.chk] 105))) rfl (.tmp 45) (.tmp 47) 63 rfl lo 105 i0 (.agg #[.int .i64 0, .int .i64 0]) 2 16 Try.underlying63 HI0.out HZ0.out HZ1.out HZ2.out rfl (by decide) (.slice av s.l.length cv) s.l.length (encP s.l) rfl ((HO3.out.alloc _).drew) ⟨W2.heap.size, 0, none⟩ 1 1 [.int .i64 (s.ran + 1 + s.per), .int .i64 s.chk] rfl rfl (news_two W2 _ [.int .i64 (s.ran + 1 + s.per), .int .i64 s.chk]) HONE.out (by decide) HMAX.out HBYT.out HLO4.out (W2.heap.size + 1) HSZ.out ?_; intro gg cap' w1 hown1 hgrow hat hlt2; have HAP := Lib.hid (app_keep HR2.out HW2.out HO3.out HNE1.out HNO1.out hown1 hgrow hat); have c5' : w1.cell? ⟨B, 5, none⟩ = some (.slice av s.l.length cv) := (show w1.cell? ⟨B, 5, none⟩ = some q.v from HAP.out.1.cell 5).trans (congrArg some HV.out); have f5' : w1.frozen? ⟨B, 5, none⟩ = false := HAP.out.1.frozen 5; have d0' : w1.cell? ⟨b, 0, none⟩ = some (.int .i64 (s.ran + 1 + s.per)) := HAP.out.2.1.cell 0; have d1' : w1.cell? ⟨b, 1, none⟩ = some (.int .i64 s.chk) := HAP.out.2.1.cell 1; clear hown1 hgrow hat hlt2))
  all_goals
    go_wp2
    refine bodyPost_ret (results_none rfl _ _ _) rfl ⟨⟨_, rfl⟩, ⟨{ q with v := .slice (some ⟨gg, 0, none⟩) (s.l.length + 1) cap' }, HQ.out, ?_⟩, HF2.out.trans (HAP.out.2.2.out.2.2.trans (Fr.set _ _ _ _ HH.out.lo))⟩
    have e : endA s = { s with chk := 0, l := s.l ++ [(s.ran + 1 + s.per, s.chk)] } := by rw [endA, if_pos HL.out]
    have hai := HH.out.ai.ended
    rw [e] at hai ⊢
    have ho : w1.ownsRow lo 105 2 (.slice (some ⟨gg, 0, none⟩) (s.l.length + 1) cap') (s.l ++ [(s.ran + 1 + s.per, s.chk)]).length (encP (s.l ++ [(s.ran + 1 + s.per, s.chk)])) := by
      rw [encP_app, List.length_append]; exact HAP.out.2.2.out.2.1
    exact ⟨HAP.out.1.set 5 _, own_fr2 ho (Fr.set (S := fun k => k = B) _ _ _ _ rfl) (fun k e1 e2 => by injection e1 with e1; exact HAP.out.2.2.out.1 (e1.trans e2)), fun e1 => by injection e1 with e1; exact HAP.out.2.2.out.1 e1, HH.out.lo, hai, fun hc => absurd hc (by show ¬ (0 : Int) < 0; omega), HH.out.rt, HH.out.c32⟩
end Go.Proofs.Ytibmmonboeifhaa
