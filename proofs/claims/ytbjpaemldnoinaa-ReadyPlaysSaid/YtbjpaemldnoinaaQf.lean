/- ReadyPlays: the reference's delete. -/
import Derived.Test.YtbjpaemldnoinaaQe
import Derived.Deep.AppendLies
import Derived.Deep.RegionLaw
namespace Go.Proofs.Ytbjpaemldnoinaa
open Go.RowKit
set_option linter.unusedVariables false

theorem step_append_own {P : Program} {w : World} {ops : Array Oper} {o : Oper} {a : Act} {K : Act → World → Prop} {Q : Exit → Act → World → Prop} {E : Prop} (hgd : o.guard = none) (s x : Operand) (t : TypeId)
    (ho : o.op = .call { callee := .builtin .append, args := #[s, x], argTypes := #[t, t] })
    (base : Nat) (e : TypeId) (i : TypeInfo) (z : Value) (size bytes : Nat) (ht : P.underlying t = some (.slice e)) (hi : P.info? e = some i) (hz : i.zero = some z)
    (hsize : i.size = size) (hby : i.bytes = bytes) (hzs : z.cells.size = size) (hsz : 0 < size)
    (v : Value) (n : Nat) (xs : List Value) (hs : a.eval s = v) (hown : w.ownsRow base e size v n xs)
    (ad : Addr) (m c : Nat) (news : List Value) (hx : a.eval x = .slice (some ad) m c) (hl : news.length = m * size) (hnews : ∀ j u, news[j]? = some u → w.cell? (ad.add j) = some u) (h1 : ∀ u ∈ news, u.oneCell' = true)
    (h63 : n + m ≤ maxLen) (hbytes : (n + m) * bytes ≤ 140737488355328) (hbase : base ≤ w.heap.size)
    (h : ∀ v' w', w'.ownsRow base e size v' (n + m) (xs ++ news) → w.grownBy w' v.ownBlock → K (a.put o.dst v') w') :
    if Region.wanted o (yielded ops a.tmps) = true then Oper.wp P o a w K Q else E := by
  have hw : Region.wanted o (yielded ops a.tmps) = true := by simp [Region.wanted, hgd]
  rw [if_pos hw]
  exact wp_append_own w s x t ho base e i z size bytes ht hi hz hsize hby hzs hsz v n xs hs hown ad m c news hx hl hnews h1 h63 hbytes hbase fun v' w' h2 h3 _ => h v' w' h2 h3
theorem info_ent : (Try.prog.info? 89).map (fun i => (i.zero, i.size, i.bytes)) = some (some (.agg #[.int .i64 0, .int .i64 0, .int .i64 0]), 3, 24) := by kernel_rfl
theorem encE_take {l : List EnR} {i j : Nat} {u : Value} (h : (encE (l.take i))[j]? = some u) : (encE l)[j]? = some u := by
  have hj := (List.getElem?_eq_some_iff.1 h).1
  have e := congrArg encE (List.take_append_drop i l)
  rw [encE_app] at e
  rw [← e, List.getElem?_append_left hj]; exact h
theorem encE_drop {l : List EnR} {i j : Nat} (hi : i ≤ l.length) {u : Value} (h : (encE (l.drop i))[j]? = some u) : (encE l)[i * 3 + j]? = some u := by
  have e := congrArg encE (List.take_append_drop i l)
  rw [encE_app] at e
  have hl : (encE (l.take i)).length = i * 3 := by rw [encE_len, List.length_take]; omega
  rw [← e, List.getElem?_append_right (by omega), hl, show i * 3 + j - i * 3 = j from by omega]; exact h
theorem own_cellsE {W : World} {lo g n cap : Nat} {t : TypeId} {xs : List Value} (h : W.ownsRow lo t 3 (.slice (some ⟨g, 0, none⟩) n cap) n xs) : ∀ j u, xs[j]? = some u → W.cell? ⟨g, j, none⟩ = some u := fun j u hj => by
  have := h.cells (g := g) rfl j u hj
  rw [Addr.add_mid, Nat.zero_add] at this; exact this

/-- As RQ, with the slice's block at n or above. -/
def RQN (lo R n : Nat) (l : List EnR) (W : World) : Prop := ∃ v, RQA lo R v l W ∧ ∀ k, v.ownBlock = some k → n ≤ k
theorem RQN.rq {lo R n : Nat} {l : List EnR} {W : World} (h : RQN lo R n l W) : RQ lo R l W := by obtain ⟨v, h, _⟩ := h; exact ⟨v, h⟩
theorem rdel_done {W w2 : World} {lo R i : Nat} {l : List EnR} {ap : Option Addr} {cp m : Nat} {a0 : Value} (hi : i < l.length) (hm : m = i + (l.length - (i + 1))) (hr : RowAt w2 R 29 #[a0]) (hf : Fr (fun k => k = R ∨ W.heap.size ≤ k) W w2) (hlo : lo ≤ R) (hR : R < W.heap.size)
    (ho : w2.ownsRow W.heap.size 89 3 (.slice ap m cp) m (encE (l.take i) ++ encE (l.drop (i + 1)))) : RQN lo R W.heap.size (l.eraseIdx i) (w2.setCell ⟨R, 0, none⟩ (.slice ap m cp)) ∧ Fr (fun k => k = R ∨ W.heap.size ≤ k) W (w2.setCell ⟨R, 0, none⟩ (.slice ap m cp)) := by
  have e : l.eraseIdx i = l.take i ++ l.drop (i + 1) := List.eraseIdx_eq_take_drop_succ ..
  have hn : (l.eraseIdx i).length = m := by rw [e, List.length_append, List.length_take, List.length_drop, hm]; omega
  have he : encE (l.eraseIdx i) = encE (l.take i) ++ encE (l.drop (i + 1)) := by rw [e, encE_app]
  refine ⟨⟨_, ⟨hr.set 0 (.slice ap m cp), ?_, ?_, hlo⟩, fun k e => (ho.lt k e).1⟩, hf.trans (Fr.set _ _ _ _ (.inl rfl))⟩
  · rw [hn, he]
    exact own_fr2 (own_base ho (by omega)) (Fr.set (S := fun k => k = R) _ _ _ _ rfl) (fun k e1 e2 => by have := (ho.lt k e1).1; omega)
  · intro e1
    have := (ho.lt R e1).1
    omega

set_option maxRecDepth 100000 in
set_option maxHeartbeats 2000000 in
theorem rdel_fr {W : World} {lo R : Nat} {l : List EnR} (h : RQ lo R l W) (hl : l.length ≤ 256) (i : Nat) (hi : i < l.length) : Calls Try.prog 81 #[.pointer (some ⟨R, 0, none⟩), .int .i64 (i : Int)] W fun e w' => (∃ v, e = .returned v) ∧ RQN lo R W.heap.size (l.eraseIdx i) w' ∧ Fr (fun k => k = R ∨ W.heap.size ≤ k) W w' := by
  obtain ⟨i0, hi0, hz0, hz1, hz2⟩ := info_parts info_ent
  have HI0 := Lib.hid hi0
  have HZ0 := Lib.hid hz0
  have HZ1 := Lib.hid hz1
  have HZ2 := Lib.hid hz2
  obtain ⟨v, h⟩ := h
  obtain ⟨g, cap, hv, hg, hcap, hcells, hfz⟩ := own_someE h.own (by omega)
  subst hv
  have HQ := Lib.hid h
  have c0 : W.cell? ⟨R, 0, none⟩ = some (.slice (some ⟨g, 0, none⟩) l.length cap) := h.row.cell 0
  have f0 : W.frozen? ⟨R, 0, none⟩ = false := h.row.frozen 0
  have j0 : (0 : Int) ≤ i := by omega
  have j1 : (i : Int) < l.length := by omega
  have j2 : (i : Int) ≤ cap := by omega
  have j3 : (l.length : Int) ≤ cap := by omega
  have j4 : (i : Int) < 256 := by omega
  have hB : R < W.heap.size := h.row.lt
  have hB3 : ∀ o i, (W.alloc o).cell? ⟨R, i, none⟩ = W.cell? ⟨R, i, none⟩ := fun o i => World.cell?_of_block (heap_alloc_old _ _ HQ.out.row.lt)
  clear h hi0 hz0 hz1 hz2 hcells hfz
  by_cases hc : cap = i + 1
  · have hle : l.length = i + 1 := by omega
    rw [hle, hc] at c0
    have HQ' : Hid (RQA lo R (.slice (some ⟨g, 0, none⟩) (i + 1) (i + 1)) l W) := by have := HQ.out; rw [hle, hc] at this; exact this
    have hd : l.drop (i + 1) = [] := List.drop_eq_nil_of_le (by omega)
    have HD := Lib.hid hd
    have HLE := Lib.hid hle
    clear hd j1 j2 j3
    have jj : (i : Int) ≤ (i : Int) + 1 := by omega
    have hw : IntKind.i64.wrap ((i : Int) + 1) = (i : Int) + 1 := IntWalk.i64_in _ (by omega)
    have j6 : (0 : Int) ≤ (i : Int) + 1 := by omega
    have j7 : ((i : Int) + 1).toNat = i + 1 := by omega
    go_enter Try.func81, Try.ntmps81
    go_upto_region 0 with (fail)
    have HO0 : Hid ((World.drew (W.alloc (.cells #[] 89))).ownsRow W.heap.size 89 3 (.slice (some ⟨W.heap.size, 0, none⟩) 0 0) 0 []) := by
      have := World.ownsRow_made (base := W.heap.size) (e := 89) (size := 3) W #[] 0 (Nat.le_refl _) (by decide) rfl
      show World.ownsRow _ _ _ _ _ _ _
      exact World.ownsRow.drew (by simpa using this)
    have HC0 : Hid (∀ j u, (encE (l.take i))[j]? = some u → (World.drew (W.alloc (.cells #[] 89))).cell? ((⟨g, 0, none⟩ : Addr).add j) = some u) := fun j u hj => by
      rw [Addr.add_mid, Nat.zero_add]
      show (W.alloc _).cell? _ = _
      rw [World.cell?_of_block (heap_alloc_old _ _ (HQ'.out.own.lt g rfl).2)]
      exact own_cellsE (show W.ownsRow lo 89 3 (.slice (some ⟨g, 0, none⟩) (i + 1) (i + 1)) (i + 1) (encE l) from HLE.out ▸ HQ'.out.own) _ _ (encE_take hj)
    have HN0 : Hid ((encE (l.take i)).length = i * 3) := by show _ = _; rw [encE_len, List.length_take]; omega
    have HM0 : Hid (0 + i ≤ maxLen ∧ (0 + i) * 24 ≤ 140737488355328 ∧ W.heap.size ≤ (World.drew (W.alloc (.cells #[] 89))).heap.size) := ⟨by unfold maxLen; omega, by omega, by show _ ≤ (W.alloc _).heap.size; simp⟩
    have HK : Hid (∀ w1, (World.drew (W.alloc (.cells #[] 89))).grownBy w1 (some W.heap.size) → w1.cell? ⟨R, 0, none⟩ = some (.slice (some ⟨g, 0, none⟩) (i + 1) (i + 1)) ∧ w1.frozen? ⟨R, 0, none⟩ = false ∧ RQA lo R (.slice (some ⟨g, 0, none⟩) (i + 1) (i + 1)) l w1 ∧ Fr (fun k => k = R ∨ W.heap.size ≤ k) W w1) := fun w1 hg1 => by
      have hf : Fr (fun k => k = W.heap.size) W w1 := (Fr.alloc (fun k => k = W.heap.size) W (.cells #[] 89)).trans ((Fr.drew _ _).trans (Fr.grown hg1 (fun k e => by cases e; rfl)))
      have hr := HQ'.out.row.fr hf (Nat.ne_of_lt HQ'.out.row.lt)
      have hlg := HQ'.out.own.lt g rfl
      have ho := own_fr2 HQ'.out.own hf (fun k e e2 => by have := (HQ'.out.own.lt k e).2; omega)
      refine ⟨hr.cell 0, hr.frozen 0, ⟨hr, ho, HQ'.out.ne, HQ'.out.lo⟩, hf.mono (fun k _ e => by have := HQ'.out.lo; have := HQ'.out.row.lt; omega)⟩
    have HK2 : Hid (∀ ao co w1 w2, w1.ownsRow W.heap.size 89 3 (.slice ao i co) i (encE (l.take i)) → (World.drew (W.alloc (.cells #[] 89))).grownBy w1 (some W.heap.size) → w1.grownBy w2 (Value.slice ao i co).ownBlock → w2.cell? ⟨R, 0, none⟩ = some (.slice (some ⟨g, 0, none⟩) (i + 1) (i + 1)) ∧ w2.frozen? ⟨R, 0, none⟩ = false ∧ RowAt w2 R 29 #[.slice (some ⟨g, 0, none⟩) (i + 1) (i + 1)] ∧ Fr (fun k => k = R ∨ W.heap.size ≤ k) W w2 ∧ R < W.heap.size) := fun ao co w1 w2 ho h1 h2 => by
      have k := HK.out w1 h1
      have hsz : W.heap.size ≤ w1.heap.size := Nat.le_trans (by show W.heap.size ≤ (W.alloc _).heap.size; simp) h1.size
      have hlt := HQ'.out.row.lt
      have hf : Fr (fun k => W.heap.size ≤ k) w1 w2 := Fr.grown h2 (fun k e => (ho.lt k e).1)
      have hr := k.2.2.1.row.fr hf (by omega)
      have hlo := HQ'.out.lo
      exact ⟨hr.cell 0, hr.frozen 0, hr, k.2.2.2.trans (hf.mono (fun k _ e => by omega)), hlt⟩
    have HM1 : Hid (i + 0 ≤ maxLen ∧ (i + 0) * 24 ≤ 140737488355328) := ⟨by unfold maxLen; omega, by omega⟩
    go_region_law (first
      | (refine step_append_own (w := w1) rfl (.tmp 12) (.tmp 19) 27 rfl W.heap.size 89 i0 (.agg #[.int .i64 0, .int .i64 0, .int .i64 0]) 3 24 Try.underlying27 HI0.out HZ0.out HZ1.out HZ2.out rfl (by decide) (.slice ao i co) i (encE (l.take i)) rfl HO1.out ⟨g, 0, none⟩ 0 0 [] rfl rfl (fun j u hj => nomatch hj) (fun u hu => nomatch hu) HM1.out.1 HM1.out.2 (Nat.le_trans HM0.out.2.2 HG1.out.size) ?_; intro v2 w2 hown2 hgrow2; obtain ⟨ap, cp, rfl⟩ := own_shape hown2; have HO2 := Lib.hid hown2; have HG2 := Lib.hid hgrow2; have c2 := (HK2.out _ _ w1 w2 HO1.out HG1.out hgrow2).1; have f2 := (HK2.out _ _ w1 w2 HO1.out HG1.out hgrow2).2.1; clear hown2 hgrow2 c1 f1)
      | (refine step_append_own (w := World.drew (W.alloc (.cells #[] 89))) rfl (.tmp 5) (.tmp 11) 27 rfl W.heap.size 89 i0 (.agg #[.int .i64 0, .int .i64 0, .int .i64 0]) 3 24 Try.underlying27 HI0.out HZ0.out HZ1.out HZ2.out rfl (by decide) (.slice (some ⟨W.heap.size, 0, none⟩) 0 0) 0 [] rfl HO0.out ⟨g, 0, none⟩ i (i + 1) (encE (l.take i)) rfl HN0.out HC0.out (encE_one _) HM0.out.1 HM0.out.2.1 HM0.out.2.2 ?_; intro v1 w1 hown0 hgrow; have hown1 : w1.ownsRow W.heap.size 89 3 v1 i (encE (l.take i)) := (by simpa using hown0); clear hown0; obtain ⟨ao, co, rfl⟩ := own_shape hown1; have HO1 := Lib.hid hown1; have HG1 := Lib.hid hgrow; have c1 := (HK.out w1 hgrow).1; have f1 := (HK.out w1 hgrow).2.1; clear hown1 hgrow))
    all_goals
      go_wp2
      go_end0
      have hk := HK2.out _ _ _ _ HO1.out HG1.out HG2.out
      exact ⟨⟨_, rfl⟩, rdel_done hi (by have := HLE.out; omega) hk.2.2.1 hk.2.2.2.1 HQ'.out.lo hk.2.2.2.2 (by rw [HD.out]; exact HO2.out)⟩
  · have hc2 : ((i : Int) + 1) < cap := by omega
    have hw : IntKind.i64.wrap ((i : Int) + 1) = (i : Int) + 1 := IntWalk.i64_in _ (by omega)
    have j5 : (i : Int) + 1 ≤ l.length := by omega
    have j6 : (0 : Int) ≤ (i : Int) + 1 := by omega
    have j7 : ((i : Int) + 1).toNat = i + 1 := by omega
    go_enter Try.func81, Try.ntmps81
    go_upto_region 0 with (fail)
    have HO0 : Hid ((World.drew (W.alloc (.cells #[] 89))).ownsRow W.heap.size 89 3 (.slice (some ⟨W.heap.size, 0, none⟩) 0 0) 0 []) := by
      have := World.ownsRow_made (base := W.heap.size) (e := 89) (size := 3) W #[] 0 (Nat.le_refl _) (by decide) rfl
      show World.ownsRow _ _ _ _ _ _ _
      exact World.ownsRow.drew (by simpa using this)
    have HC0 : Hid (∀ j u, (encE (l.take i))[j]? = some u → (World.drew (W.alloc (.cells #[] 89))).cell? ((⟨g, 0, none⟩ : Addr).add j) = some u) := fun j u hj => by
      rw [Addr.add_mid, Nat.zero_add]
      show (W.alloc _).cell? _ = _
      rw [World.cell?_of_block (heap_alloc_old _ _ (HQ.out.own.lt g rfl).2)]
      exact own_cellsE HQ.out.own _ _ (encE_take hj)
    have HN0 : Hid ((encE (l.take i)).length = i * 3) := by show _ = _; rw [encE_len, List.length_take]; omega
    have HM0 : Hid (0 + i ≤ maxLen ∧ (0 + i) * 24 ≤ 140737488355328 ∧ W.heap.size ≤ (World.drew (W.alloc (.cells #[] 89))).heap.size) := ⟨by unfold maxLen; omega, by omega, by show _ ≤ (W.alloc _).heap.size; simp⟩
    have HK : Hid (∀ w1, (World.drew (W.alloc (.cells #[] 89))).grownBy w1 (some W.heap.size) → w1.cell? ⟨R, 0, none⟩ = some (.slice (some ⟨g, 0, none⟩) l.length cap) ∧ w1.frozen? ⟨R, 0, none⟩ = false ∧ RQA lo R (.slice (some ⟨g, 0, none⟩) l.length cap) l w1 ∧ Fr (fun k => k = R ∨ W.heap.size ≤ k) W w1 ∧ (∀ j u, (encE (l.drop (i + 1)))[j]? = some u → w1.cell? ((⟨g, (i + 1) * 3, none⟩ : Addr).add j) = some u)) := fun w1 hg1 => by
      have hf : Fr (fun k => k = W.heap.size) W w1 := (Fr.alloc (fun k => k = W.heap.size) W (.cells #[] 89)).trans ((Fr.drew _ _).trans (Fr.grown hg1 (fun k e => by cases e; rfl)))
      have hr := HQ.out.row.fr hf (Nat.ne_of_lt HQ.out.row.lt)
      have hlg := HQ.out.own.lt g rfl
      have ho := own_fr2 HQ.out.own hf (fun k e e2 => by have := (HQ.out.own.lt k e).2; omega)
      refine ⟨hr.cell 0, hr.frozen 0, ⟨hr, ho, HQ.out.ne, HQ.out.lo⟩, hf.mono (fun k _ e => by have := HQ.out.lo; have := HQ.out.row.lt; omega), fun j u hj => ?_⟩
      rw [Addr.add_mid]
      exact own_cellsE ho _ _ (encE_drop (by omega) hj)
    have HK2 : Hid (∀ ao co w1 w2, w1.ownsRow W.heap.size 89 3 (.slice ao i co) i (encE (l.take i)) → (World.drew (W.alloc (.cells #[] 89))).grownBy w1 (some W.heap.size) → w1.grownBy w2 (Value.slice ao i co).ownBlock → w2.cell? ⟨R, 0, none⟩ = some (.slice (some ⟨g, 0, none⟩) l.length cap) ∧ w2.frozen? ⟨R, 0, none⟩ = false ∧ RowAt w2 R 29 #[.slice (some ⟨g, 0, none⟩) l.length cap] ∧ Fr (fun k => k = R ∨ W.heap.size ≤ k) W w2 ∧ R < W.heap.size) := fun ao co w1 w2 ho h1 h2 => by
      have k := HK.out w1 h1
      have hsz : W.heap.size ≤ w1.heap.size := Nat.le_trans (by show W.heap.size ≤ (W.alloc _).heap.size; simp) h1.size
      have hlt := HQ.out.row.lt
      have hf : Fr (fun k => W.heap.size ≤ k) w1 w2 := Fr.grown h2 (fun k e => (ho.lt k e).1)
      have hr := k.2.2.1.row.fr hf (by omega)
      have hlo := HQ.out.lo
      exact ⟨hr.cell 0, hr.frozen 0, hr, k.2.2.2.1.trans (hf.mono (fun k _ e => by omega)), hlt⟩
    have HN1 : Hid ((encE (l.drop (i + 1))).length = (l.length - (i + 1)) * 3) := by show _ = _; rw [encE_len, List.length_drop]
    have HM1 : Hid (i + (l.length - (i + 1)) ≤ maxLen ∧ (i + (l.length - (i + 1))) * 24 ≤ 140737488355328) := ⟨by unfold maxLen; omega, by omega⟩
    go_region_law (first
      | (refine step_append_own (w := w1) rfl (.tmp 12) (.tmp 19) 27 rfl W.heap.size 89 i0 (.agg #[.int .i64 0, .int .i64 0, .int .i64 0]) 3 24 Try.underlying27 HI0.out HZ0.out HZ1.out HZ2.out rfl (by decide) (.slice ao i co) i (encE (l.take i)) rfl HO1.out ⟨g, (i + 1) * 3, none⟩ (l.length - (i + 1)) (cap - (i + 1)) (encE (l.drop (i + 1))) rfl HN1.out (HK.out w1 HG1.out).2.2.2.2 (encE_one _) HM1.out.1 HM1.out.2 (Nat.le_trans HM0.out.2.2 HG1.out.size) ?_; intro v2 w2 hown2 hgrow2; obtain ⟨ap, cp, rfl⟩ := own_shape hown2; have HO2 := Lib.hid hown2; have HG2 := Lib.hid hgrow2; have c2 := (HK2.out _ _ w1 w2 HO1.out HG1.out hgrow2).1; have f2 := (HK2.out _ _ w1 w2 HO1.out HG1.out hgrow2).2.1; clear hown2 hgrow2 c1 f1)
      | (refine step_append_own (w := World.drew (W.alloc (.cells #[] 89))) rfl (.tmp 5) (.tmp 11) 27 rfl W.heap.size 89 i0 (.agg #[.int .i64 0, .int .i64 0, .int .i64 0]) 3 24 Try.underlying27 HI0.out HZ0.out HZ1.out HZ2.out rfl (by decide) (.slice (some ⟨W.heap.size, 0, none⟩) 0 0) 0 [] rfl HO0.out ⟨g, 0, none⟩ i cap (encE (l.take i)) rfl HN0.out HC0.out (encE_one _) HM0.out.1 HM0.out.2.1 HM0.out.2.2 ?_; intro v1 w1 hown0 hgrow; have hown1 : w1.ownsRow W.heap.size 89 3 v1 i (encE (l.take i)) := (by simpa using hown0); clear hown0; obtain ⟨ao, co, rfl⟩ := own_shape hown1; have HO1 := Lib.hid hown1; have HG1 := Lib.hid hgrow; have c1 := (HK.out w1 hgrow).1; have f1 := (HK.out w1 hgrow).2.1; clear hown1 hgrow))
    all_goals
      go_wp2
      go_end0
      have hk := HK2.out _ _ _ _ HO1.out HG1.out HG2.out
      exact ⟨⟨_, rfl⟩, rdel_done hi rfl hk.2.2.1 hk.2.2.2.1 HQ.out.lo hk.2.2.2.2 HO2.out⟩
theorem rdel_any {W : World} {lo R : Nat} {l : List EnR} (h : RQ lo R l W) (hl : l.length ≤ 256) (i : Nat) (hi : i < l.length) : Calls Try.prog 81 #[.pointer (some ⟨R, 0, none⟩), .int .i64 (i : Int)] W fun e w' => (∃ v, e = .returned v) ∧ RQ lo R (l.eraseIdx i) w' ∧ Fr (fun k => lo ≤ k) W w' := by
  have hlo : lo ≤ R := by obtain ⟨v, h⟩ := h; exact h.lo
  exact (rdel_fr h hl i hi).mono fun e w' ⟨h1, h2, h3⟩ => ⟨h1, h2.rq, h3.mono fun k hk e => by omega⟩
end Go.Proofs.Ytbjpaemldnoinaa
