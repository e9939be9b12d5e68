/- The reference's end at a full list; tell. -/
import Derived.Test.YtibmmonboeifhaaWc
import Derived.Laws.OwnMore
namespace Go.Proofs.Ytibmmonboeifhaa
open Go.RowKit
set_option linter.unusedVariables false

theorem encP_set2 : ∀ (l : List (Int × Int)) (i : Nat) (x : Int × Int), i < l.length → encP (l.set i x) = ((encP l).set (i * 2) (.int .i64 x.1)).set (i * 2 + 1) (.int .i64 x.2)
  | [], i, x, h => by simp at h
  | y :: r, 0, x, h => rfl
  | y :: r, i + 1, x, h => by
    rw [List.set_cons_succ, encP, encP_set2 r i x (by simpa using h), encP, show (i + 1) * 2 = i * 2 + 1 + 1 from by omega]
    rfl
/-- What the tail of end works on: the list at g is full, its last entry is y. -/
structure ToRS (lo B : Nat) (T b0 : Int) (s : AQ) (q : RQ) (g cv b : Nat) (W W2 : World) (y : Int × Int) : Prop where
  hq : q.b0 = b0
  hh : RAt W lo B T q s
  hc : 0 < s.chk
  hl : ¬ s.l.length < s.cap
  cap : s.l.length = s.cap
  pos : 0 < s.l.length
  row : RowAt W2 B 103 (rCells q s false)
  rb : RowAt W2 b 105 #[.int .i64 (s.ran + 1 + s.per), .int .i64 s.chk]
  fr : Fr (fun k => lo ≤ k) W W2
  own : W2.ownsRow lo 105 2 (.slice (some ⟨g, 0, none⟩) s.l.length cv) s.l.length (encP s.l)
  n1 : g ≠ B
  n2 : g ≠ b
  last : s.l[s.l.length - 1]? = some y
  v : q.v = .slice (some ⟨g, 0, none⟩) s.l.length cv
structure ToRS3 (lo B : Nat) (T b0 : Int) (s : AQ) (q : RQ) (g cv b : Nat) (W W3 : World) (y : Int × Int) : Prop where
  hq : q.b0 = b0
  hh : RAt W lo B T q s
  hc : 0 < s.chk
  hl : ¬ s.l.length < s.cap
  cap : s.l.length = s.cap
  pos : 0 < s.l.length
  row : RowAt W3 B 103 (rCells q s false)
  rb : RowAt W3 b 105 #[.int .i64 (s.ran + 1 + s.per), .int .i64 s.chk]
  fr : Fr (fun k => lo ≤ k) W W3
  own : W3.ownsRow lo 105 2 (.slice (some ⟨g, 0, none⟩) s.l.length cv) s.l.length (encP (s.l.set (s.l.length - 1) (y.1, y.2 + s.chk)))
  n1 : g ≠ B
  lg : lo ≤ g
  last : s.l[s.l.length - 1]? = some y
  v : q.v = .slice (some ⟨g, 0, none⟩) s.l.length cv
theorem encP_amt {l : List (Int × Int)} {i : Nat} {y : Int × Int} (h : l[i]? = some y) (a : Int) : (encP l).set (i * 2 + 1) (.int .i64 a) = encP (l.set i (y.1, a)) := by
  have hi : i < l.length := (List.getElem?_eq_some_iff.1 h).1
  rw [encP_set2 l i _ hi]
  have e := (encP_get l i y h).1
  have hlt : i * 2 < (encP l).length := by rw [encP_len]; omega
  congr 1
  refine (List.ext_getElem? fun j => ?_)
  rw [List.getElem?_set]
  split
  · rename_i hj; subst hj; first | exact e | (rw [if_pos hlt]; exact e.symm) | (rw [if_pos hlt]; exact e)
  · rfl
theorem ToRS.amt {lo B g cv b : Nat} {T b0 : Int} {s : AQ} {q : RQ} {W W2 : World} {y : Int × Int} (h : ToRS lo B T b0 s q g cv b W W2 y) : ToRS3 lo B T b0 s q g cv b W (World.drew (W2.setCell ⟨g, (s.l.length - 1) * 2 + 1, none⟩ (.int .i64 (y.2 + s.chk)))) y := by
  have hlg : lo ≤ g := (h.own.lt g rfl).1
  have ho := (h.own.stored ((s.l.length - 1) * 2 + 1) (.int .i64 (y.2 + s.chk))).1
  rw [encP_amt h.last] at ho
  exact ⟨h.hq, h.hh, h.hc, h.hl, h.cap, h.pos, h.row.other (Ne.symm h.n1) _ _, h.rb.other (Ne.symm h.n2) _ _, h.fr.trans ((Fr.set _ _ _ _ hlg).trans (Fr.drew _ _)), ho.drew, h.n1, hlg, h.last, h.v⟩
theorem ToRS3.c5 {lo B g cv b : Nat} {T b0 : Int} {s : AQ} {q : RQ} {W W3 : World} {y : Int × Int} (h : ToRS3 lo B T b0 s q g cv b W W3 y) : W3.cell? ⟨B, 5, none⟩ = some (.slice (some ⟨g, 0, none⟩) s.l.length cv) := by
  rw [← h.v]; exact h.row.cell 5
theorem ToRS3.y0 {lo B g cv b : Nat} {T b0 : Int} {s : AQ} {q : RQ} {W W3 : World} {y : Int × Int} (h : ToRS3 lo B T b0 s q g cv b W W3 y) : W3.cell? ⟨g, (s.l.length - 1) * 2, none⟩ = some (.int .i64 y.1) := by
  have hp := h.pos
  have e := (encP_get (s.l.set (s.l.length - 1) (y.1, y.2 + s.chk)) (s.l.length - 1) (y.1, y.2 + s.chk) (by rw [List.getElem?_set_self (by omega)])).1
  exact own_cells h.own _ _ e
theorem set_last {l : List (Int × Int)} (h : 0 < l.length) (z : Int × Int) : l.set (l.length - 1) z = l.dropLast ++ [z] := by
  have hne : l ≠ [] := fun e => by rw [e] at h; cases h
  have e := split_last hne
  have hl : l.dropLast.length = l.length - 1 := List.length_dropLast
  conv => lhs; rw [e]
  rw [List.set_append_right _ _ (by rw [hl, ← e]; exact Nat.le_refl _)]
  rw [hl, ← e, Nat.sub_self]; rfl
theorem ToRS3.done {lo B g cv b : Nat} {T b0 : Int} {s : AQ} {q : RQ} {W W3 W4 : World} {y : Int × Int} {t : Int} (h : ToRS3 lo B T b0 s q g cv b W W3 y) (ht : t = if y.1 < s.ran + 1 + s.per then s.ran + 1 + s.per else y.1)
    (hf : Fr (fun k => k = g) W3 W4) (ho : W4.ownsRow lo 105 2 (.slice (some ⟨g, 0, none⟩) s.l.length cv) s.l.length (encP (s.l.set (s.l.length - 1) (t, y.2 + s.chk)))) : RS lo B T b0 (endA s) W4 ∧ Fr (fun k => lo ≤ k) W W4 := by
  have hy : s.l.getLastD (0, 0) = y := by
    have := h.last
    rw [List.getLastD_eq_getLast?, List.getLast?_eq_getElem?, this]; rfl
  have e : endA s = { s with chk := 0, l := s.l.dropLast ++ [(t, y.2 + s.chk)] } := by rw [endA, if_neg h.hl, hy, ht]
  have hai := h.hh.ai.ended
  rw [e] at hai ⊢
  rw [set_last h.pos] at ho
  have hlen : (s.l.dropLast ++ [(t, y.2 + s.chk)]).length = s.l.length := by rw [List.length_append, List.length_dropLast]; have := h.pos; simp; omega
  refine ⟨⟨q, h.hq, h.row.fr hf (Ne.symm h.n1), ?_, h.hh.ne, h.hh.lo, hai, fun hc => absurd hc (by show ¬ (0 : Int) < 0; omega), h.hh.rt, h.hh.c32⟩, h.fr.trans (hf.mono fun k _ e => by rw [e]; exact h.lg)⟩
  show W4.ownsRow lo _ 2 q.v (s.l.dropLast ++ [(t, y.2 + s.chk)]).length _
  rw [h.v, hlen]; exact ho
theorem ToRS3.keep {lo B g cv b : Nat} {T b0 : Int} {s : AQ} {q : RQ} {W W3 : World} {y : Int × Int} (h : ToRS3 lo B T b0 s q g cv b W W3 y) (hn : ¬ y.1 < s.ran + 1 + s.per) (m : Nat) : RS lo B T b0 (endA s) (W3.drewN m) ∧ Fr (fun k => lo ≤ k) W (W3.drewN m) :=
  h.done (t := y.1) (by rw [if_neg hn]) (Fr.drewN _ _ _) (own_fr2 h.own (Fr.drewN (fun _ => False) _ _) (fun _ _ => id))
theorem ToRS3.late {lo B g cv b : Nat} {T b0 : Int} {s : AQ} {q : RQ} {W W3 : World} {y : Int × Int} (h : ToRS3 lo B T b0 s q g cv b W W3 y) (hn : y.1 < s.ran + 1 + s.per) (m : Nat) : RS lo B T b0 (endA s) ((W3.drewN m).setCell ⟨g, (s.l.length - 1) * 2, none⟩ (.int .i64 (s.ran + 1 + s.per))) ∧ Fr (fun k => lo ≤ k) W ((W3.drewN m).setCell ⟨g, (s.l.length - 1) * 2, none⟩ (.int .i64 (s.ran + 1 + s.per))) := by
  have hp := h.pos
  have ho : (W3.drewN m).ownsRow lo 105 2 (.slice (some ⟨g, 0, none⟩) s.l.length cv) s.l.length _ := own_fr2 h.own (Fr.drewN (fun _ => False) _ m) (fun _ _ => id)
  have ho2 := (ho.stored ((s.l.length - 1) * 2) (.int .i64 (s.ran + 1 + s.per))).1
  refine h.done (t := s.ran + 1 + s.per) (by rw [if_pos hn]) ((Fr.drewN _ _ m).trans (Fr.set (S := fun k => k = g) _ g _ _ rfl)) ?_
  have e : (encP (s.l.set (s.l.length - 1) (y.1, y.2 + s.chk))).set ((s.l.length - 1) * 2) (.int .i64 (s.ran + 1 + s.per)) = encP (s.l.set (s.l.length - 1) (s.ran + 1 + s.per, y.2 + s.chk)) := by
    rw [encP_set2 _ _ _ (by omega), encP_set2 _ _ _ (by omega)]
    refine (List.ext_getElem? fun j => ?_)
    simp only [List.getElem?_set, List.length_set, encP_len]
    split <;> split <;> (try split) <;> (try split) <;> simp_all <;> omega
  rw [e] at ho2
  exact ho2
set_option maxRecDepth 100000 in
set_option maxHeartbeats 2000000 in
theorem rend_old {W : World} {lo B : Nat} {T b0 : Int} {s : AQ} (h : RS lo B T b0 s W) (hc : 0 < s.chk) (hl : ¬ s.l.length < s.cap) : Calls Try.prog 90 #[.pointer (some ⟨B, 0, none⟩)] W (ToR lo B T b0 (endA s) W) := by
  obtain ⟨q, hq, h⟩ := h
  have HQ := Lib.hid hq
  have HH := Lib.hid h
  have HL := Lib.hid hl
  have HC := Lib.hid hc
  obtain ⟨o1, o2⟩ := h.op hc
  have c1 : W.cell? ⟨B, 1, none⟩ = some (.int .i64 s.per) := h.row.cell 1
  have c7 : W.cell? ⟨B, 7, none⟩ = some (.int .i64 (s.ran - s.chk + 1)) := by rw [← o2]; exact h.row.cell 7
  have c8 : W.cell? ⟨B, 8, none⟩ = some (.int .i64 s.ran) := by rw [← o1]; exact h.row.cell 8
  have p0 := h.ai.per0
  have p1 := h.ai.per1
  have r0 := h.ai.ran0
  have r1 := h.ai.ran1
  have k0 := h.ai.chk0
  have k1 : s.chk ≤ 1000000 := by have := h.ai.sum; have := h.ai.bud0; have := sumL_nonneg h.ai.amt; have := h.ai.tot; omega
  have hB : B < W.heap.size := h.row.lt
  have hB3 : ∀ o i, (W.alloc o).cell? ⟨B, i, none⟩ = W.cell? ⟨B, i, none⟩ := fun o i => World.cell?_of_block (heap_alloc_old _ _ HH.out.row.lt)
  clear h hq hl hc o1 o2
  go_enter Try.func90, Try.ntmps90
  go_wp2
  go_region
  rw [show s.ran - (s.ran - s.chk + 1) + 1 = s.chk from by omega]
  clear c1 c7 c8 hB hB3
  have HW1 : Hid (RowAt (World.drew (W.alloc (.cells #[.int .i64 (s.ran + 1 + s.per), .int .i64 s.chk] 105))) W.heap.size 105 #[.int .i64 (s.ran + 1 + s.per), .int .i64 s.chk]) := RowAt.new W _ _
  have HF1 : Hid (Fr (fun k => lo ≤ k) W (World.drew (W.alloc (.cells #[.int .i64 (s.ran + 1 + s.per), .int .i64 s.chk] 105)))) := (Fr.alloc _ W _).trans (Fr.drew _ _)
  have HS1 : Hid (RAt (World.drew (W.alloc (.cells #[.int .i64 (s.ran + 1 + s.per), .int .i64 s.chk] 105))) lo B T q s) := HH.out.rest ((Fr.alloc _ W _).trans (Fr.drew _ _))
  generalize World.drew _ = W1 at HW1 HF1 HS1 ⊢
  have HNB : Hid (W.heap.size ≠ B) := Nat.ne_of_gt HH.out.row.lt
  have HNO : Hid (∀ k, q.v.ownBlock = some k → k ≠ W.heap.size) := fun k e => Nat.ne_of_lt (HH.out.own.lt k e).2
  generalize W.heap.size = b at HW1 HNB HNO ⊢
  have c6 : W1.cell? ⟨B, 6, none⟩ = some (.bool (decide (0 < s.chk))) := HS1.out.row.cell 6
  have f6 : W1.frozen? ⟨B, 6, none⟩ = false := HS1.out.row.frozen 6
  go_upto_region 2 with (fail)
  have HR2 : Hid (RowAt (W1.setCell ⟨B, 6, none⟩ (.bool false)) B 103 (rCells q s false)) := HS1.out.row.set 6 (.bool false)
  have HW2 := Lib.hid (HW1.out.other HNB.out 6 (.bool false))
  have HF2 : Hid (Fr (fun k => lo ≤ k) W (W1.setCell ⟨B, 6, none⟩ (.bool false))) := HF1.out.trans (Fr.set _ _ _ _ HH.out.lo)
  have HO2 : Hid ((W1.setCell ⟨B, 6, none⟩ (.bool false)).ownsRow lo 105 2 q.v s.l.length (encP s.l)) := own_fr2 HS1.out.own (Fr.set (S := fun k => k = B) _ _ _ _ rfl) (fun k e e2 => HH.out.ne (by rw [e, e2]))
  clear c6 f6 HW1 HF1 HS1
  generalize World.setCell W1 _ _ = W2 at HR2 HW2 HF2 HO2 ⊢
  obtain ⟨av, cv, hv⟩ := own_shape HO2.out
  have HV := Lib.hid hv
  clear hv
  have c5 : W2.cell? ⟨B, 5, none⟩ = some (.slice av s.l.length cv) := by rw [← HV.out]; exact HR2.out.cell 5
  have c2 : W2.cell? ⟨B, 2, none⟩ = some (.int .i64 (s.cap : Int)) := HR2.out.cell 2
  have hcap : s.l.length = s.cap := by have := HH.out.ai.len; have := HL.out; omega
  have hpos : 0 < s.l.length := by have := HH.out.ai.cap0; omega
  have hlc : ¬ (s.l.length : Int) < s.cap := by omega
  have hl0 : (1 : Int) ≤ s.l.length := by omega
  have hl1 : (s.l.length : Int) ≤ 32 := by have := HH.out.c32; omega
  have hm1 : ((s.l.length : Int) - 1).toNat = s.l.length - 1 := by omega
  obtain ⟨g, cv2, hv2, hg, hcl, hcells, hfz⟩ := own_some HO2.out hpos
  obtain ⟨rfl, rfl⟩ : av = some ⟨g, 0, none⟩ ∧ cv = cv2 := by
    have := HV.out.symm.trans hv2
    injection this with e1 _ e3
    exact ⟨e1, e3⟩
  have hlast : s.l[s.l.length - 1]? = some (s.l.getLastD (0, 0)) := by
    rw [List.getLastD_eq_getLast?, List.getLast?_eq_getElem?, List.getElem?_eq_getElem (by omega)]; rfl
  obtain ⟨y0, y1⟩ := hcells _ _ hlast
  have z0 := hfz ((s.l.length - 1) * 2)
  have z1 := hfz ((s.l.length - 1) * 2 + 1)
  have d0 : W2.cell? ⟨b, 0, none⟩ = some (.int .i64 (s.ran + 1 + s.per)) := HW2.out.cell 0
  have d1 : W2.cell? ⟨b, 1, none⟩ = some (.int .i64 s.chk) := HW2.out.cell 1
  have x0 := HH.out.ai.amt _ (List.mem_of_getElem? hlast)
  have x1 : (s.l.getLastD (0, 0)).2 ≤ 1000000 := by have := sumL_mem HH.out.ai.amt (List.mem_of_getElem? hlast); have := HH.out.ai.sum; have := HH.out.ai.tot; have := HH.out.ai.bud0; omega
  have HNG : Hid (g ≠ B ∧ g ≠ b) := ⟨fun e => HH.out.ne (by rw [HV.out, e]; rfl), fun e => HNO.out g (by rw [HV.out]; rfl) e⟩
  have HG0 := Lib.hid hg
  have HCELL := Lib.hid hcells
  have HLAST := Lib.hid hlast
  have HCAP := Lib.hid hcap
  clear hv2 hg hcells hfz hlast hcap
  generalize s.l.getLastD (0, 0) = y at y0 y1 x0 x1 HLAST
  go_upto_region 5 with (fail)
  have HFT : Hid (ToRS lo B T b0 s q g cv b W W2 y) := ⟨HQ.out, HH.out, HC.out, HL.out, HCAP.out, hpos, HR2.out, HW2.out, HF2.out, by rw [← HV.out]; exact HO2.out, HNG.out.1, HNG.out.2, HLAST.out, HV.out⟩
  go_region
  all_goals
    have HT3 := Lib.hid HFT.out.amt
    clear c5 c2 y0 y1 z0 z1 d0 d1 HFT HR2 HW2 HF2 HO2
    generalize World.drew (W2.setCell _ _) = W3 at HT3 ⊢
    have c5 : W3.cell? ⟨B, 5, none⟩ = some (.slice (some ⟨g, 0, none⟩) s.l.length cv) := HT3.out.c5
    have y0 : W3.cell? ⟨g, (s.l.length - 1) * 2, none⟩ = some (.int .i64 y.1) := HT3.out.y0
    have z0 : W3.frozen? ⟨g, (s.l.length - 1) * 2, none⟩ = false := HT3.out.own.frozenAt _
    have d0 : W3.cell? ⟨b, 0, none⟩ = some (.int .i64 (s.ran + 1 + s.per)) := HT3.out.rb.cell 0
    by_cases ht : y.1 < s.ran + 1 + s.per
    · have HTT := Lib.hid ht
      go_upto_region 6 with (fail)
      go_quiet (fail)
      go_upto_region 7 with (fail)
      go_region
      all_goals
        go_wp2
        go_end0
        exact ⟨⟨_, rfl⟩, HT3.out.late HTT.out _⟩
    · have HTT := Lib.hid ht
      have ht' : s.ran + 1 + s.per ≤ y.1 := by omega
      clear ht
      go_upto_region 6 with (fail)
      go_quiet (fail)
      go_wp2
      go_end0
      exact ⟨⟨_, rfl⟩, HT3.out.keep (Int.not_lt.2 HTT.out) _⟩
end Go.Proofs.Ytibmmonboeifhaa
