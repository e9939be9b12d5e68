/- InheritMonotone's walk. -/
import Derived.Test.YteikipiigbjgbaaKa
import Derived.Test.YteikipiigbjgbaaEe
import Derived.Deep.DeepMust
import Derived.Deep.CutBlock
import Derived.Deep.RegionHeldLaw
import Derived.Deep.Light
namespace Go.Proofs.Yteikipiigbjgbaa
open Go.RowKit
set_option linter.unusedVariables false

theorem own_get {W w : World} {lo n cp : Nat} {ap : Option Addr} {xs : List Value} (h : W.ownsRow lo 3 1 (.slice ap n cp) n xs) (hf : Fr No W w) {i : Nat} {u : Value} (hu : xs[i]? = some u) : ∃ g, ap = some ⟨g, 0, none⟩ ∧ w.cell? ⟨g, i, none⟩ = some u := by
  have h' := own_fr2 h hf (fun _ _ e => e)
  have hl := (List.getElem?_eq_some_iff.1 hu).1
  have hc := fun g (e : (Value.slice ap n cp).ownBlock = some g) => h'.cells (g := g) e
  rcases h'.2 with ⟨h1, h0⟩ | ⟨g, cap, cur, h1, h2, h3, _⟩
  · have := h'.1
    omega
  · injection h1 with e1 _ _
    subst e1
    have := hc g rfl _ _ hu
    rw [Addr.add_mid, Nat.zero_add] at this
    exact ⟨g, rfl, this⟩
theorem own_max {W : World} {lo n : Nat} {t : TypeId} {v : Value} {xs : List Value} (h : W.ownsRow lo t 1 v n xs) : (n : Int) ≤ 9223372036854775807 := by
  rcases h.2 with ⟨h1, h0⟩ | ⟨g, cap, cur, h1, h2, h3, h4, h5, _⟩
  · omega
  · unfold maxLen at h5
    omega
theorem encN_get {i : Nat} (R : List Nat) (h : i < R.length) : (encN R)[i]? = some (.int .i64 ((R[i] : Nat) : Int)) := by simp [encN, h]
theorem lkD {w : World} {k : Nat} {o : Obj} (h : w.heap[k]? = some o) : w.drew.heap[k]? = some o := h
theorem lkO {w : World} {k : Nat} {o o' : Obj} (h : w.heap[k]? = some o) : (w.alloc o').heap[k]? = some o := by
  rw [heap_alloc_old _ _ (Array.getElem?_eq_some_iff.1 h).1]; exact h
theorem lkN {w : World} {k : Nat} {o : Obj} (h : k = w.heap.size) : (w.alloc o).heap[k]? = some o := by subst h; exact heap_alloc_new w _
theorem frD {S : Nat → Prop} {A w : World} (h : Fr S A w) : Fr S A w.drew := h.trans (Fr.drew _ _)
theorem frA {S : Nat → Prop} {A w : World} {o : Obj} (h : Fr S A w) : Fr S A (w.alloc o) := h.trans (Fr.alloc _ _ _)
theorem frS {A w : World} {z i : Nat} {v : Value} (h : Fr No A w) (hz : A.heap.size ≤ z) : Fr No A (w.setCell ⟨z, i, none⟩ v) := Fr.over h (Fr.set (S := fun k => k = z) _ _ _ _ rfl) (fun i e => .inr (by omega))
theorem frG {A w w' : World} {row : Option Nat} (h : Fr No A w) (hg : w.grownBy w' row) (hr : ∀ k, row = some k → A.heap.size ≤ k) : Fr No A w' := Fr.over h (Fr.grown (S := fun k => A.heap.size ≤ k) hg hr) (fun i e => .inr e)
theorem grown_keep {w w' : World} {row : Option Nat} (hg : w.grownBy w' row) : ∀ k o, w.heap[k]? = some o → some k ≠ row → w'.heap[k]? = some o := fun k o h e => (hg.block k (Array.getElem?_eq_some_iff.1 h).1 e).trans h
theorem own_blk {g n c k : Nat} (e : (Value.slice (some ⟨g, 0, none⟩) n c).ownBlock = some k) : g = k := by simpa [Value.ownBlock] using e
theorem own_none {w : World} {lo k size : Nat} {t : TypeId} (h : w.heap[k]? = some (.cells #[] t (0, 0))) (hlo : lo ≤ k) : w.ownsRow lo t size (.slice (some ⟨k, 0, none⟩) 0 0) 0 [] := ⟨by simp, .inr ⟨k, 0, #[], rfl, hlo, h, Nat.le_refl _, by unfold maxLen; omega, by simp, by simp⟩⟩
theorem row_cell {w : World} {k i : Nat} {t : TypeId} {cs : Array Value} {v : Value} (h : w.heap[k]? = some (.cells cs t (0, 0))) (hv : cs[i]? = some v) : w.cell? ⟨k, i, none⟩ = some v := by rw [cell_of_row w k i cs t (0, 0) h]; exact hv
theorem row_free {w : World} {k i : Nat} {t : TypeId} {cs : Array Value} (h : w.heap[k]? = some (.cells cs t (0, 0))) : w.frozen? ⟨k, i, none⟩ = false := frozen_of_row _ _ i _ _ h
theorem fin_new {w5 w : World} {raw : Raw} {g n k : Nat} {a : Option Addr} {m cap : Nat} {ex ey : Int} (ho : w.ownsRow w5.heap.size 36 2 (.slice (some ⟨g, 0, none⟩) n k) n (encR raw ++ [.int .i64 ex, .int .i64 ey])) (hn : n = raw.length + 1) (hf : Fr No w5 w) :
    ∃ z c2 cap2, Value.pointer (some ⟨w.heap.size, 0, none⟩) = Value.pointer (some ⟨z, 0, none⟩) ∧ Hid (RowAt (w.alloc (.cells #[.slice a m cap, .slice (some ⟨g, 0, none⟩) n k] 40)) z 40 #[.slice a m cap, .slice c2 (raw.length + 1) cap2] ∧ EdgesIn (w.alloc (.cells #[.slice a m cap, .slice (some ⟨g, 0, none⟩) n k] 40)) c2 (raw ++ [(ex, ey)]) ∧ Fr No w5 (w.alloc (.cells #[.slice a m cap, .slice (some ⟨g, 0, none⟩) n k] 40))) := by
  have ho2 : w.ownsRow w5.heap.size 36 2 (.slice (some ⟨g, 0, none⟩) n k) n (encR (raw ++ [(ex, ey)])) := by rw [encR_app]; exact ho
  obtain ⟨c2, cap2, e1, e2, e3⟩ := own_edges ho2
  injection e1 with e4 _ e5
  subst e4 e5 hn
  exact ⟨_, _, _, rfl, ⟨RowAt.new w _ _, e3.no (Fr.alloc _ _ _), frA hf⟩⟩
theorem fin_old {w5 w : World} {raw : Raw} {g n k z : Nat} {a : Option Addr} {m cap : Nat} {ex ey : Int} (hz : w.heap[z]? = some (.cells #[.slice none 0 0, .slice none 0 0] 40 (0, 0))) (hzl : w5.heap.size ≤ z) (ho : w.ownsRow w5.heap.size 36 2 (.slice (some ⟨g, 0, none⟩) n k) n (encR raw ++ [.int .i64 ex, .int .i64 ey])) (hn : n = raw.length + 1) (hf : Fr No w5 w) :
    ∃ z' c2 cap2, Value.pointer (some ⟨z, 0, none⟩) = Value.pointer (some ⟨z', 0, none⟩) ∧ Hid (RowAt ((w.setCell ⟨z, 0, none⟩ (.slice a m cap)).setCell ⟨z, 1, none⟩ (.slice (some ⟨g, 0, none⟩) n k)) z' 40 #[.slice a m cap, .slice c2 (raw.length + 1) cap2] ∧ EdgesIn ((w.setCell ⟨z, 0, none⟩ (.slice a m cap)).setCell ⟨z, 1, none⟩ (.slice (some ⟨g, 0, none⟩) n k)) c2 (raw ++ [(ex, ey)]) ∧ Fr No w5 ((w.setCell ⟨z, 0, none⟩ (.slice a m cap)).setCell ⟨z, 1, none⟩ (.slice (some ⟨g, 0, none⟩) n k))) := by
  have hzg : z ≠ g := fun e => by
    subst e
    rcases ho.2 with ⟨h1, _⟩ | ⟨g', cap', cur, h1, h2, h3, _⟩
    · cases h1
    · injection h1 with e1
      injection e1 with e1
      injection e1 with e1
      subst e1
      rw [hz] at h3
      injection h3 with h3
      injection h3 with _ h3
      cases h3
  have hz' : RowAt w z 40 #[.slice none 0 0, .slice none 0 0] := hz
  have hF : Fr (fun k => k = z) w ((w.setCell ⟨z, 0, none⟩ (.slice a m cap)).setCell ⟨z, 1, none⟩ (.slice (some ⟨g, 0, none⟩) n k)) := (Fr.set (S := fun k => k = z) _ _ _ _ rfl).trans (Fr.set (S := fun k => k = z) _ _ _ _ rfl)
  have ho2 : ((w.setCell ⟨z, 0, none⟩ (.slice a m cap)).setCell ⟨z, 1, none⟩ (.slice (some ⟨g, 0, none⟩) n k)).ownsRow w5.heap.size 36 2 (.slice (some ⟨g, 0, none⟩) n k) n (encR (raw ++ [(ex, ey)])) := own_fr2 (by rw [encR_app]; exact ho) hF (fun k e e2 => hzg (by have := own_blk e; omega))
  obtain ⟨c2, cap2, e1, e2, e3⟩ := own_edges ho2
  injection e1 with e4 _ e5
  subst e4 e5 hn
  exact ⟨_, _, _, rfl, ⟨(hz'.set 0 _).set 1 _, e3, frS (frS hf hzl) hzl⟩⟩
theorem step_append_first {P : Program} {w : World} {ops : Array Oper} {o : Oper} {a : Act} {K : Act → World → Prop} {Q : Exit → Act → World → Prop} {E : Prop} (hgd : o.guard = none) (s x : Operand) (t : TypeId)
    (ho : o.op = .call { callee := .builtin .append, args := #[s, x], argTypes := #[t, t] })
    (base : Nat) (e : TypeId) (i : TypeInfo) (z : Value) (size bytes : Nat) (ht : P.underlying t = some (.slice e)) (hi : P.info? e = some i) (hz : i.zero = some z)
    (hsize : i.size = size) (hby : i.bytes = bytes) (hzs : z.cells.size = size) (hsz : 0 < size)
    (v : Value) (hs : a.eval s = v) (hown : w.ownsRow base e size v 0 [])
    (ad : Addr) (m c : Nat) (news : List Value) (hx : a.eval x = .slice (some ad) m c) (hl : news.length = m * size) (hnews : ∀ j u, news[j]? = some u → w.cell? (ad.add j) = some u) (h1 : ∀ u ∈ news, u.oneCell' = true)
    (hm : 0 < m) (h63 : m ≤ maxLen) (hbytes : m * bytes ≤ 140737488355328) (hbase : base ≤ w.heap.size) (H : Nat) (hH : w.heap.size = H)
    (h : ∀ g cap w', w'.ownsRow base e size (.slice (some ⟨g, 0, none⟩) m cap) m news → w.grownBy w' v.ownBlock → (v.ownBlock = some g ∨ g = H) → g < w'.heap.size → K (a.put o.dst (.slice (some ⟨g, 0, none⟩) m cap)) w') :
    if Region.wanted o (yielded ops a.tmps) = true then Oper.wp P o a w K Q else E :=
  step_append_lies w hgd s x t ho base e i z size bytes ht hi hz hsize hby hzs hsz v 0 [] hs hown ad m c news hx hl hnews h1 hm (by omega) (by rw [Nat.zero_add]; exact hbytes) hbase H hH fun g cap w' a1 a2 a3 a4 => by
    rw [Nat.zero_add] at a1 ⊢
    exact h g cap w' a1 a2 a3 a4
theorem run_append_zero {P : Program} {w : World} {t ty e : TypeId} {i : TypeInfo} (ht : P.underlying t = some (.slice e)) (hi : P.info? e = some i) (g : Nat) (o : Option Addr) (c : Nat) :
    (Builtin.append_ #[t, t] ty #[.slice (some ⟨g, 0, none⟩) 0 0, .slice o 0 c]).run P w = .ok (.slice (some ⟨g, 0, none⟩) 0 0) w := by
  cases o <;> simp [Builtin.append_, run_underlying ht, sizeOf, typeInfo, hi, Builtin.lenOf, Builtin.firstCells, loadCells, loadCellsFrom, storeCells]
theorem step_append_zero {P : Program} {w : World} {ops : Array Oper} {o : Oper} {a : Act} {K : Act → World → Prop} {Q : Exit → Act → World → Prop} {E : Prop} (hgd : o.guard = none) (s x : Operand) (t : TypeId)
    (ho : o.op = .call { callee := .builtin .append, args := #[s, x], argTypes := #[t, t] })
    (e : TypeId) (i : TypeInfo) (ht : P.underlying t = some (.slice e)) (hi : P.info? e = some i)
    (g : Nat) (hs : a.eval s = .slice (some ⟨g, 0, none⟩) 0 0) (ad : Option Addr) (c : Nat) (hx : a.eval x = .slice ad 0 c)
    (h : K (a.put o.dst (.slice (some ⟨g, 0, none⟩) 0 0)) w) :
    if Region.wanted o (yielded ops a.tmps) = true then Oper.wp P o a w K Q else E := by
  have hw : Region.wanted o (yielded ops a.tmps) = true := by simp [Region.wanted, hgd]
  rw [if_pos hw]
  unfold Oper.wp execOp
  simp only [ho, resolve, invoke, builtin, Sem.run_bind, Sem.run_pure, Result.andThen_ok, List.map_toArray, List.map_cons, List.map_nil, hs, hx, run_append_zero (ty := o.type) ht hi g ad c]
  exact h
set_option maxRecDepth 100000 in
set_option maxHeartbeats 4000000 in
theorem monotone_walk (W : World) (a c : Option Addr) (bs : List Int) (raw : Raw) (cap cap' : Nat) (ex ey : Int) (hb : NumsIn W a bs) (he : EdgesIn W c raw) (hcap : a = none → cap = 0) : Calls Try.prog 4 #[.agg (graphV a bs.length cap c raw.length cap'), .agg #[.int .i64 ex, .int .i64 ey]] W fun e w' => e = .returned (.bool true) ∧ Fr No W w' := by
  have HB0 := Lib.hid hb
  have HE0 := Lib.hid he
  have HCAP := Lib.hid hcap
  clear hb he hcap
  unfold graphV
  go_enter Try.func4, Try.ntmps4
  go_upto_region 1 with (fail)
  have HFA : Hid (Fr No W ((W.alloc (.cells #[.slice a bs.length cap, .slice c raw.length cap'] 40)).alloc (.cells #[.int .i64 ex, .int .i64 ey] 36))) := (Fr.alloc _ _ _).trans (Fr.alloc _ _ _)
  have HRG : Hid (RowAt ((W.alloc (.cells #[.slice a bs.length cap, .slice c raw.length cap'] 40)).alloc (.cells #[.int .i64 ex, .int .i64 ey] 36)) W.heap.size 40 #[.slice a bs.length cap, .slice c raw.length cap']) := (RowAt.new W _ _).fr (Fr.alloc No _ _) id
  have HRE : Hid (RowAt ((W.alloc (.cells #[.slice a bs.length cap, .slice c raw.length cap'] 40)).alloc (.cells #[.int .i64 ex, .int .i64 ey] 36)) (W.heap.size + 1) 36 #[.int .i64 ex, .int .i64 ey]) := by
    have := RowAt.new (W.alloc (.cells #[.slice a bs.length cap, .slice c raw.length cap'] 40)) 36 #[.int .i64 ex, .int .i64 ey]
    rw [show (W.alloc (.cells #[.slice a bs.length cap, .slice c raw.length cap'] 40)).heap.size = W.heap.size + 1 from by simp] at this
    exact this
  have HNX : Hid (W.heap.size < W.heap.size + 1) := Nat.lt_succ_self _
  have HB := Lib.hid (HB0.out.no HFA.out)
  have HE := Lib.hid (HE0.out.no HFA.out)
  clear HB0 HE0
  generalize World.alloc (World.alloc W _) _ = W1 at HFA HRG HRE HB HE ⊢
  generalize W.heap.size + 1 = y at HRE HNX ⊢
  generalize W.heap.size = x at HRG HNX ⊢
  have c0 : W1.cell? ⟨x, 0, none⟩ = some (.slice a bs.length cap) := HRG.out.cell 0
  have c1 : W1.cell? ⟨x, 1, none⟩ = some (.slice c raw.length cap') := HRG.out.cell 1
  have HFW := Lib.hid (few_any a c bs.length cap raw.length cap' W1)
  have HCK := Lib.hid (check_any a c cap cap' bs raw W1 HB.out HE.out)
  unfold graphV at HCK
  by_cases hfew : fewB bs.length raw.length = false
  · rw [hfew] at HFW
    go_wp2_with (first
      | (refine wpList_load_mid_g rfl 40 (Operand.tmp 2) rfl x 0 rfl [_, _] _ HRG.out.range Try.underlying40 rfl size_graph ?_)
      | (go_at_call 14; refine HFW.out.mono ?_; rintro e w3 ⟨rfl, f3⟩; subst f3)
      | (go_at_call 6; refine (awake_any _).mono ?_; rintro e w5 ⟨rfl, f5⟩; have F5 := Lib.hid f5; clear f5))
    go_ret
    exact ⟨rfl, HFA.out.trans F5.out⟩
  have hfew' : fewB bs.length raw.length = true := by simpa using hfew
  rw [hfew'] at HFW
  have HL : Hid (bs.length ≤ 30 ∧ raw.length ≤ 60) := by
    show _ ∧ _
    simpa [fewB] using hfew'
  clear hfew hfew'
  by_cases h0' : chkG bs raw ≠ 0
  · have g1 : (chkG bs raw != 0) = true := by simpa using h0'
    clear h0'
    generalize chkG bs raw = v at HCK g1
    go_wp2_with (first
      | (go_at_call 14; refine HFW.out.mono ?_; rintro e w3 ⟨rfl, f3⟩; subst f3)
      | (go_at_call 15; refine HCK.out.mono ?_; rintro e w4 ⟨rfl, f4⟩; have F4 := Lib.hid f4; clear f4 c0 c1)
      | (go_at_call 6; refine (awake_any _).mono ?_; rintro e w5 ⟨rfl, f5⟩; have F5 := Lib.hid f5; clear f5))
    go_ret
    exact ⟨rfl, (HFA.out.trans F4.out).trans F5.out⟩
  have h0 : chkG bs raw = 0 := by simpa using h0'
  clear h0'
  rw [h0] at HCK
  obtain ⟨es, hgo⟩ := gok h0
  have HGO := Lib.hid hgo
  have H0 := Lib.hid h0
  clear hgo h0
  have HEF : Hid (∀ w, Fr No W1 w → Calls Try.prog 12 #[.agg #[.slice a bs.length cap, .slice c raw.length cap']] w fun e w' => ∃ v p, e = .returned (.tuple #[v, .int .i64 0]) ∧ IsEff bs.length (fun i => bs.getD i 0) es p ∧ w'.ownsRow w.heap.size 3 1 v bs.length (encP bs.length p) ∧ Fr No w w') :=
    fun w hf => effective_ok (HB.out.no hf) (HE.out.no hf) H0.out HGO.out (stable_forty (by have := HL.out; omega)) HCAP.out
  go_upto_region 4 with (first
      | (go_at_call 14; refine HFW.out.mono ?_; rintro e w3 ⟨rfl, f3⟩; subst f3)
      | (go_at_call 15; refine HCK.out.mono ?_; rintro e w4 ⟨rfl, f4⟩; have F4 := Lib.hid f4; clear f4 c0 c1; have c0 : w4.cell? ⟨x, 0, none⟩ = some (.slice a bs.length cap) := (HRG.out.fr F4.out id).cell 0; have c1 : w4.cell? ⟨x, 1, none⟩ = some (.slice c raw.length cap') := (HRG.out.fr F4.out id).cell 1)
      | (go_at_call 12; refine (HEF.out _ F4.out).mono ?_; rintro e w5 ⟨v, p, rfl, hp, ho, hf⟩; obtain ⟨ap, cp, hv⟩ := own_shape ho; subst hv; have HP := Lib.hid hp; have HPO := Lib.hid ho; have F5 := Lib.hid (F4.out.trans hf); clear hp ho hf c0 c1; have c0 : w5.cell? ⟨x, 0, none⟩ = some (.slice a bs.length cap) := (HRG.out.fr F5.out id).cell 0; have c1 : w5.cell? ⟨x, 1, none⟩ = some (.slice c raw.length cap') := (HRG.out.fr F5.out id).cell 1))
  have nb : (bs.length : Int) ≤ 30 := by have := HL.out; omega
  go_cut [7] from 35 to 44 (fun s7 w7 => ∃ z c2 cap2, s7 = Value.pointer (some ⟨z, 0, none⟩) ∧ Hid (RowAt w7 z 40 #[.slice a bs.length cap, .slice c2 (raw.length + 1) cap2] ∧ EdgesIn w7 c2 (raw ++ [(ex, ey)]) ∧ Fr No w5 w7))
  case first =>
    clear HCK HFW HEF
    obtain ⟨j0, hj0, hy0, hy1, hy2⟩ := info_parts info_edge
    have HJ0 := Lib.hid hj0
    have HY0 := Lib.hid hy0
    have HY1 := Lib.hid hy1
    have HY2 := Lib.hid hy2
    clear hj0 hy0 hy1 hy2
    have e0 : w5.cell? ⟨y, 0, none⟩ = some (.int .i64 ex) := (HRE.out.fr F5.out id).cell 0
    have e1 : w5.cell? ⟨y, 1, none⟩ = some (.int .i64 ey) := (HRE.out.fr F5.out id).cell 1
    have HONE : Hid (∀ u ∈ [Value.int .i64 ex, Value.int .i64 ey], u.oneCell' = true) := by
      intro u hu
      simp at hu
      rcases hu with rfl | rfl <;> rfl
    have HS1 : Hid (True) := trivial
    by_cases hm0 : raw.length = 0
    · have hraw : raw = [] := List.eq_nil_of_length_eq_zero hm0
      subst hraw
      clear hm0
      have HKP : Hid (∀ w', Fr No w5 w' → w'.cell? ⟨x, 0, none⟩ = some (.slice a bs.length cap) ∧ w'.cell? ⟨x, 1, none⟩ = some (.slice c 0 cap') ∧ w'.cell? ⟨y, 0, none⟩ = some (.int .i64 ex) ∧ w'.cell? ⟨y, 1, none⟩ = some (.int .i64 ey)) := fun w' hf => ⟨(HRG.out.fr (F5.out.trans hf) id).cell 0, (HRG.out.fr (F5.out.trans hf) id).cell 1, (HRE.out.fr (F5.out.trans hf) id).cell 0, (HRE.out.fr (F5.out.trans hf) id).cell 1⟩
      go_region_held_law (fun w' => w'.cell? ⟨x, 0, none⟩ = some (.slice a bs.length cap) ∧ w'.cell? ⟨x, 1, none⟩ = some (.slice c 0 cap') ∧ w'.cell? ⟨y, 0, none⟩ = some (.int .i64 ex) ∧ w'.cell? ⟨y, 1, none⟩ = some (.int .i64 ey)) (exact HKP.out _ (by (repeat (first | exact Fr.refl _ _ | exact FW1.out | exact FW2.out | (with_reducible refine frD ?_) | (with_reducible refine frA ?_) | (with_reducible refine frS ?_ (by have := FW1.out.size; omega)) | (with_reducible refine frS ?_ (by omega))))))
        (first
          | (refine step_append_zero rfl (.tmp 37) (.tmp 39) 29 rfl 36 j0 Try.underlying29 HJ0.out _ rfl _ _ rfl ?_)
          | (refine step_append_lies _ rfl (.tmp 40) (.tmp 42) 29 rfl w5.heap.size 36 j0 (.agg #[.int .i64 0, .int .i64 0]) 2 16 Try.underlying29 HJ0.out HY0.out HY1.out HY2.out rfl (by decide) _ 0 [] rfl (own_none (by ((repeat (first | exact lkN (by first | (simp; done) | fail) | (with_reducible refine lkD ?_) | (with_reducible refine lkO ?_))); (first | done | fail))) (by omega)) _ 1 1 [.int .i64 ex, .int .i64 ey] rfl rfl (fun j u hu => World.news_of_block (cs := #[.int .i64 ex, .int .i64 ey]) (t := 36) (fr := (0, 0)) (by ((repeat (first | exact lkN (by first | (simp; done) | fail) | (with_reducible refine lkD ?_) | (with_reducible refine lkO ?_))); (first | done | fail))) j u hu) HONE.out (by decide) (by decide) (by decide) (by simp; try omega) _ rfl ?_; intro g2 k2 w2 hown2 hgrow2 hat2 hlt2; have FW2 := Lib.hid (frG (A := w5) (by (repeat (first | exact Fr.refl _ _ | exact FW1.out | exact FW2.out | (with_reducible refine frD ?_) | (with_reducible refine frA ?_)))) hgrow2 (fun k e => by have := own_blk e; omega)); have HO2 := Lib.hid hown2; have HA2 := Lib.hid (And.intro hat2 hlt2); (try (have HZ := Lib.hid (grown_keep hgrow2 (w5.heap.size) (.cells #[.slice none 0 0, .slice none 0 0] 40) (by ((repeat (first | exact lkN (by first | (simp; done) | fail) | (with_reducible refine lkD ?_) | (with_reducible refine lkO ?_))); (first | done | fail))) (by intro e; have e := own_blk e.symm; omega)); have z0 := row_cell HZ.out (i := 0) rfl; have z1 := row_cell HZ.out (i := 1) rfl; have z2 := row_free HZ.out (i := 0); have z3 := row_free HZ.out (i := 1))); (try (have HZ := Lib.hid (grown_keep hgrow2 (w5.heap.size + 1) (.cells #[.slice none 0 0, .slice none 0 0] 40) (by ((repeat (first | exact lkN (by first | (simp; done) | fail) | (with_reducible refine lkD ?_) | (with_reducible refine lkO ?_))); (first | done | fail))) (by intro e; have e := own_blk e.symm; omega)); have z0 := row_cell HZ.out (i := 0) rfl; have z1 := row_cell HZ.out (i := 1) rfl; have z2 := row_free HZ.out (i := 0); have z3 := row_free HZ.out (i := 1))); (try (have HZ := Lib.hid (grown_keep hgrow2 (w5.heap.size + 1 + 1) (.cells #[.slice none 0 0, .slice none 0 0] 40) (by ((repeat (first | exact lkN (by first | (simp; done) | fail) | (with_reducible refine lkD ?_) | (with_reducible refine lkO ?_))); (first | done | fail))) (by intro e; have e := own_blk e.symm; omega)); have z0 := row_cell HZ.out (i := 0) rfl; have z1 := row_cell HZ.out (i := 1) rfl; have z2 := row_free HZ.out (i := 0); have z3 := row_free HZ.out (i := 1))); clear hown2 hgrow2 hat2 hlt2))
      all_goals
        go_wp2
        go_meet
        first
          | exact fin_new (raw := []) HO2.out rfl FW2.out
          | exact fin_old (raw := []) HZ.out (by omega) HO2.out rfl FW2.out
    · obtain ⟨cb, off, hce⟩ : ∃ cb off, c = some ⟨cb, off, none⟩ := by
        rcases HE.out with h | ⟨cb, off, h, _⟩
        · exact absurd (by rw [h]; rfl) hm0
        · exact ⟨cb, off, h⟩
      subst hce
      have HM0 : Hid (0 < raw.length) := by show _ < _; omega
      have HLN : Hid ((encR raw).length = raw.length * 2) := encR_len raw
      have HM1 : Hid (raw.length ≤ maxLen ∧ raw.length * 16 ≤ 140737488355328) := ⟨by have := HL.out; unfold maxLen; omega, by have := HL.out; omega⟩
      have HM2 : Hid (raw.length + 1 ≤ maxLen ∧ (raw.length + 1) * 16 ≤ 140737488355328) := ⟨by have := HL.out; unfold maxLen; omega, by have := HL.out; omega⟩
      have HCC : Hid (∀ w', Fr No w5 w' → ∀ j u, (encR raw)[j]? = some u → w'.cell? ((⟨cb, off, none⟩ : Addr).add j) = some u) := fun w' hf => by
        rcases HE.out.no (F5.out.trans hf) with h | ⟨cb', off', h1, h2⟩
        · exact absurd (by rw [h]; rfl) hm0
        · injection h1 with h1
          injection h1 with h1 h3
          subst h1 h3
          exact cells_of_edges h2
      clear hm0
      have HKP : Hid (∀ w', Fr No w5 w' → w'.cell? ⟨x, 0, none⟩ = some (.slice a bs.length cap) ∧ w'.cell? ⟨x, 1, none⟩ = some (.slice (some ⟨cb, off, none⟩) raw.length cap') ∧ w'.cell? ⟨y, 0, none⟩ = some (.int .i64 ex) ∧ w'.cell? ⟨y, 1, none⟩ = some (.int .i64 ey)) := fun w' hf => ⟨(HRG.out.fr (F5.out.trans hf) id).cell 0, (HRG.out.fr (F5.out.trans hf) id).cell 1, (HRE.out.fr (F5.out.trans hf) id).cell 0, (HRE.out.fr (F5.out.trans hf) id).cell 1⟩
      have HS0 : Hid (w5.heap.size ≤ w5.heap.size) := Nat.le_refl _
      go_region_held_law (fun w' => w'.cell? ⟨x, 0, none⟩ = some (.slice a bs.length cap) ∧ w'.cell? ⟨x, 1, none⟩ = some (.slice (some ⟨cb, off, none⟩) raw.length cap') ∧ w'.cell? ⟨y, 0, none⟩ = some (.int .i64 ex) ∧ w'.cell? ⟨y, 1, none⟩ = some (.int .i64 ey)) (exact HKP.out _ (by (repeat (first | exact Fr.refl _ _ | exact FW1.out | exact FW2.out | (with_reducible refine frD ?_) | (with_reducible refine frA ?_) | (with_reducible refine frS ?_ (by have := FW1.out.size; omega)) | (with_reducible refine frS ?_ (by omega))))))
        (first
          | (refine step_append_first rfl (.tmp 37) (.tmp 39) 29 rfl w5.heap.size 36 j0 (.agg #[.int .i64 0, .int .i64 0]) 2 16 Try.underlying29 HJ0.out HY0.out HY1.out HY2.out rfl (by decide) _ rfl (own_none (by ((repeat (first | exact lkN (by first | (simp; done) | fail) | (with_reducible refine lkD ?_) | (with_reducible refine lkO ?_))); (first | done | fail))) (by omega)) ⟨cb, off, none⟩ raw.length cap' (encR raw) rfl HLN.out (HCC.out _ (by (repeat (first | exact Fr.refl _ _ | (with_reducible refine frD ?_) | (with_reducible refine frA ?_))))) (encR_one _) HM0.out HM1.out.1 HM1.out.2 (by simp; try omega) _ rfl ?_; intro g1 k1 w1 hown1 hgrow1 hat1 hlt1; have FW1 := Lib.hid (frG (A := w5) (by (repeat (first | exact Fr.refl _ _ | (with_reducible refine frD ?_) | (with_reducible refine frA ?_)))) hgrow1 (fun k e => by have := own_blk e; omega)); have HO1 := Lib.hid hown1; have HB1 := Lib.hid (grown_keep hgrow1); have HSZ1 := hgrow1.size; have HA1 := Lib.hid (And.intro (hat1.imp own_blk id) (And.intro hlt1 HSZ1)); clear HSZ1; (try (have HZ1 := Lib.hid (grown_keep hgrow1 (w5.heap.size) (.cells #[.slice none 0 0, .slice none 0 0] 40) (by ((repeat (first | exact lkN (by first | (simp; done) | fail) | (with_reducible refine lkD ?_) | (with_reducible refine lkO ?_))); (first | done | fail))) (by intro e; have e := own_blk e.symm; omega)); have z0 := row_cell HZ1.out (i := 0) rfl; have z1 := row_cell HZ1.out (i := 1) rfl; have z2 := row_free HZ1.out (i := 0); have z3 := row_free HZ1.out (i := 1))); (try (have HZ1 := Lib.hid (grown_keep hgrow1 (w5.heap.size + 1) (.cells #[.slice none 0 0, .slice none 0 0] 40) (by ((repeat (first | exact lkN (by first | (simp; done) | fail) | (with_reducible refine lkD ?_) | (with_reducible refine lkO ?_))); (first | done | fail))) (by intro e; have e := own_blk e.symm; omega)); have z0 := row_cell HZ1.out (i := 0) rfl; have z1 := row_cell HZ1.out (i := 1) rfl; have z2 := row_free HZ1.out (i := 0); have z3 := row_free HZ1.out (i := 1))); (try (have HZ1 := Lib.hid (grown_keep hgrow1 (w5.heap.size + 1 + 1) (.cells #[.slice none 0 0, .slice none 0 0] 40) (by ((repeat (first | exact lkN (by first | (simp; done) | fail) | (with_reducible refine lkD ?_) | (with_reducible refine lkO ?_))); (first | done | fail))) (by intro e; have e := own_blk e.symm; omega)); have z0 := row_cell HZ1.out (i := 0) rfl; have z1 := row_cell HZ1.out (i := 1) rfl; have z2 := row_free HZ1.out (i := 0); have z3 := row_free HZ1.out (i := 1))); clear hown1 hgrow1 hat1 hlt1)
          | (refine step_append_lies _ rfl (.tmp 40) (.tmp 42) 29 rfl w5.heap.size 36 j0 (.agg #[.int .i64 0, .int .i64 0]) 2 16 Try.underlying29 HJ0.out HY0.out HY1.out HY2.out rfl (by decide) (.slice (some ⟨g1, 0, none⟩) raw.length k1) raw.length (encR raw) rfl (own_fr2 (W := w1) (S := No) HO1.out (by (repeat (first | exact Fr.refl _ _ | exact FW1.out | exact FW2.out | (with_reducible refine frD ?_) | (with_reducible refine frA ?_)))) (fun _ _ e => e)) _ 1 1 [.int .i64 ex, .int .i64 ey] rfl rfl (fun j u hu => World.news_of_block (cs := #[.int .i64 ex, .int .i64 ey]) (t := 36) (fr := (0, 0)) (by ((repeat (first | exact lkN (by first | (simp; done) | fail) | (with_reducible refine lkD ?_) | (with_reducible refine lkO ?_) | exact HB1.out _ _ (by ((repeat (first | exact lkN (by first | (simp; done) | fail) | (with_reducible refine lkD ?_) | (with_reducible refine lkO ?_))); (first | done | fail))) (by intro e; have e := own_blk e.symm; omega))); (first | done | fail))) j u hu) HONE.out (by decide) HM2.out.1 HM2.out.2 (Fr.size (S := No) (by (repeat (first | exact Fr.refl _ _ | exact FW1.out | exact FW2.out | (with_reducible refine frD ?_) | (with_reducible refine frA ?_))))) _ rfl ?_; intro g2 k2 w2 hown2 hgrow2 hat2 hlt2; have FW2 := Lib.hid (frG (A := w5) (by (repeat (first | exact Fr.refl _ _ | exact FW1.out | exact FW2.out | (with_reducible refine frD ?_) | (with_reducible refine frA ?_)))) hgrow2 (fun k e => (HO1.out.lt k e).1)); have HO2 := Lib.hid hown2; (try (have HZ := Lib.hid (grown_keep hgrow2 (w5.heap.size) (.cells #[.slice none 0 0, .slice none 0 0] 40) (by ((repeat (first | exact lkN (by first | (simp; done) | fail) | (with_reducible refine lkD ?_) | (with_reducible refine lkO ?_) | exact HB1.out _ _ (by ((repeat (first | exact lkN (by first | (simp; done) | fail) | (with_reducible refine lkD ?_) | (with_reducible refine lkO ?_))); (first | done | fail))) (by intro e; have e := own_blk e.symm; omega))); (first | done | fail))) (by intro e; have e := own_blk e.symm; have a1 := HA1.out; first | omega | (simp at a1; omega))); (try clear z0 z1 z2 z3); have z0 := row_cell HZ.out (i := 0) rfl; have z1 := row_cell HZ.out (i := 1) rfl; have z2 := row_free HZ.out (i := 0); have z3 := row_free HZ.out (i := 1))); (try (have HZ := Lib.hid (grown_keep hgrow2 (w5.heap.size + 1) (.cells #[.slice none 0 0, .slice none 0 0] 40) (by ((repeat (first | exact lkN (by first | (simp; done) | fail) | (with_reducible refine lkD ?_) | (with_reducible refine lkO ?_) | exact HB1.out _ _ (by ((repeat (first | exact lkN (by first | (simp; done) | fail) | (with_reducible refine lkD ?_) | (with_reducible refine lkO ?_))); (first | done | fail))) (by intro e; have e := own_blk e.symm; omega))); (first | done | fail))) (by intro e; have e := own_blk e.symm; have a1 := HA1.out; first | omega | (simp at a1; omega))); (try clear z0 z1 z2 z3); have z0 := row_cell HZ.out (i := 0) rfl; have z1 := row_cell HZ.out (i := 1) rfl; have z2 := row_free HZ.out (i := 0); have z3 := row_free HZ.out (i := 1))); (try (have HZ := Lib.hid (grown_keep hgrow2 (w5.heap.size + 1 + 1) (.cells #[.slice none 0 0, .slice none 0 0] 40) (by ((repeat (first | exact lkN (by first | (simp; done) | fail) | (with_reducible refine lkD ?_) | (with_reducible refine lkO ?_) | exact HB1.out _ _ (by ((repeat (first | exact lkN (by first | (simp; done) | fail) | (with_reducible refine lkD ?_) | (with_reducible refine lkO ?_))); (first | done | fail))) (by intro e; have e := own_blk e.symm; omega))); (first | done | fail))) (by intro e; have e := own_blk e.symm; have a1 := HA1.out; first | omega | (simp at a1; omega))); (try clear z0 z1 z2 z3); have z0 := row_cell HZ.out (i := 0) rfl; have z1 := row_cell HZ.out (i := 1) rfl; have z2 := row_free HZ.out (i := 0); have z3 := row_free HZ.out (i := 1))); (try (have HZ := Lib.hid (grown_keep hgrow2 (w1.heap.size) (.cells #[.slice none 0 0, .slice none 0 0] 40) (by ((repeat (first | exact lkN (by first | (simp; done) | fail) | (with_reducible refine lkD ?_) | (with_reducible refine lkO ?_) | exact HB1.out _ _ (by ((repeat (first | exact lkN (by first | (simp; done) | fail) | (with_reducible refine lkD ?_) | (with_reducible refine lkO ?_))); (first | done | fail))) (by intro e; have e := own_blk e.symm; omega))); (first | done | fail))) (by intro e; have e := own_blk e.symm; have a1 := HA1.out; first | omega | (simp at a1; omega))); (try clear z0 z1 z2 z3); have z0 := row_cell HZ.out (i := 0) rfl; have z1 := row_cell HZ.out (i := 1) rfl; have z2 := row_free HZ.out (i := 0); have z3 := row_free HZ.out (i := 1))); (try (have HZ := Lib.hid (grown_keep hgrow2 (w1.heap.size + 1) (.cells #[.slice none 0 0, .slice none 0 0] 40) (by ((repeat (first | exact lkN (by first | (simp; done) | fail) | (with_reducible refine lkD ?_) | (with_reducible refine lkO ?_) | exact HB1.out _ _ (by ((repeat (first | exact lkN (by first | (simp; done) | fail) | (with_reducible refine lkD ?_) | (with_reducible refine lkO ?_))); (first | done | fail))) (by intro e; have e := own_blk e.symm; omega))); (first | done | fail))) (by intro e; have e := own_blk e.symm; have a1 := HA1.out; first | omega | (simp at a1; omega))); (try clear z0 z1 z2 z3); have z0 := row_cell HZ.out (i := 0) rfl; have z1 := row_cell HZ.out (i := 1) rfl; have z2 := row_free HZ.out (i := 0); have z3 := row_free HZ.out (i := 1))); clear hown2 hgrow2 hat2 hlt2))
      all_goals
        go_wp2
        go_meet
        first
          | exact fin_new HO2.out (by omega) FW2.out
          | exact fin_old HZ.out (by have := FW1.out.size; omega) HO2.out (by omega) FW2.out
  case rest =>
    obtain ⟨z, c2, cap2, rfl, HM⟩ := hcut
    have HMB := Lib.hid (HB.out.no (F5.out.trans HM.out.2.2))
    have HC2 := Lib.hid (check_any a c2 cap cap2 bs (raw ++ [(ex, ey)]) wc HMB.out HM.out.2.1)
    unfold graphV at HC2
    rw [List.length_append, List.length_singleton] at HC2
    have m0 : wc.cell? ⟨z, 0, none⟩ = some (.slice a bs.length cap) := HM.out.1.cell 0
    have m1 : wc.cell? ⟨z, 1, none⟩ = some (.slice c2 (raw.length + 1) cap2) := HM.out.1.cell 1
    clear c0 c1
    go_upto_if 47 with (go_at_call 15; refine HC2.out.mono ?_; rintro e w4 ⟨rfl, f4⟩; have F6 := Lib.hid f4; clear f4 m0 m1)
    go_cut [4] from 45 to 76 (fun s4 w8 => s4 = Value.bool false ∧ Hid (Fr No w4 w8))
    case first =>
      by_cases h2 : chkG bs (raw ++ [(ex, ey)]) = 0
      · rw [h2]
        obtain ⟨es2, hgo2⟩ := gok h2
        have HG2 := Lib.hid hgo2
        have H2 := Lib.hid h2
        have HLE : Hid (∀ p2, IsEff bs.length (fun i => bs.getD i 0) es2 p2 → ∀ i, i < bs.length → decide (p2 i < p i) = false) := fun p2 hp2 i hi => by
          have := HP.out.le hp2 (more_sub HGO.out.emb HG2.out.emb) hi
          simp; omega
        have HE2 : Hid (Calls Try.prog 12 #[.agg #[.slice a bs.length cap, .slice c2 (raw.length + 1) cap2]] w4 fun e w' => ∃ v p, e = .returned (.tuple #[v, .int .i64 0]) ∧ IsEff bs.length (fun i => bs.getD i 0) es2 p ∧ w'.ownsRow w4.heap.size 3 1 v bs.length (encP bs.length p) ∧ Fr No w4 w') := by
          show Calls _ _ _ _ _
          have := effective_ok (cap := cap) (cap' := cap2) (HMB.out.no F6.out) (HM.out.2.1.no F6.out) H2.out HG2.out (stable_forty (by have := HL.out; omega)) HCAP.out
          rw [List.length_append, List.length_singleton] at this
          exact this
        clear h2 hgo2 HC2
        have m0 : w4.cell? ⟨z, 0, none⟩ = some (.slice a bs.length cap) := (HM.out.1.fr F6.out id).cell 0
        have m1 : w4.cell? ⟨z, 1, none⟩ = some (.slice c2 (raw.length + 1) cap2) := (HM.out.1.fr F6.out id).cell 1
        go_wp2_with (go_at_call 12; refine HE2.out.mono ?_; rintro e w9 ⟨v, p2, rfl, hp, ho, hf⟩; obtain ⟨bp, cq, hv⟩ := own_shape ho; subst hv; have HP2 := Lib.hid (HLE.out p2 hp); have HBO := Lib.hid ho; have F7 := Lib.hid hf; clear hp ho hf m0 m1)
        go_loopw [4, 10] (fun v4 vi wr => v4 = .bool false ∧ ∃ i : Nat, vi = .int .i64 i ∧ (i : Int) ≤ bs.length ∧ Hid (Fr No w9 wr)) (fun _ vi _ => bs.length - (intOf vi).toNat)
        case atStart => exact ⟨rfl, 0, rfl, by omega, Fr.refl _ _⟩
        case round =>
          obtain ⟨rfl, i, rfl, i1, HI⟩ := hrel
          have i0 : (0 : Int) ≤ i := by omega
          by_cases hlt : (i : Int) < bs.length
          · have hin : i < bs.length := by omega
            have HMS : Hid (bs.length - (intOf (Value.int IntKind.i64 ((i : Int) + 1))).toNat < bs.length - (intOf (Value.int IntKind.i64 (i : Int))).toNat) := by
              show _ < _
              simp only [intOf]
              omega
            obtain ⟨ga, e1, d1⟩ := own_get HPO.out ((((HM.out.2.2.trans F6.out).trans F7.out)).trans HI.out) (encP_get p hin)
            obtain ⟨gb, e2, d2⟩ := own_get HBO.out HI.out (encP_get p2 hin)
            have g9 := HP2.out i hin
            subst e1 e2
            generalize p i = va at d1 g9
            generalize p2 i = vb at d2 g9
            have nl : (i : Int) < bs.length := hlt
            clear hin
            go_wp2_with fail
            go_quiet (fail)
            go_wp2
            go_roundw
            case rel => exact ⟨rfl, i + 1, by push_cast; rfl, by push_cast; omega, HI.out.trans (Fr.drewN _ _ _)⟩
            case measure => exact HMS.out
          · clear i1
            go_wp2
            go_meet
            exact ⟨rfl, F7.out.trans HI.out⟩
      · have g2 : (chkG bs (raw ++ [(ex, ey)]) == 0) = false := by simpa using h2
        rw [g2]
        go_wp2
        go_meet
        exact ⟨rfl, Fr.refl _ _⟩
    case rest =>
      obtain ⟨rfl, hcut⟩ := hcut
      have HW : Hid (Fr No W1 wc) := ((F5.out.trans HM.out.2.2).trans F6.out).trans hcut.out
      have HV : Hid (Fr No w5 wc) := (HM.out.2.2.trans F6.out).trans hcut.out
      clear hcut F4 F6 HC2 HCK HFW HM HMB
      have c0 : wc.cell? ⟨x, 0, none⟩ = some (.slice a bs.length cap) := (HRG.out.fr HW.out id).cell 0
      have c1 : wc.cell? ⟨x, 1, none⟩ = some (.slice c raw.length cap') := (HRG.out.fr HW.out id).cell 1
      have HCY := Lib.hid (cycle_ok (cap := cap) (cap' := cap') (HB.out.no HW.out) (HE.out.no HW.out) H0.out HGO.out)
      have HCE : Hid (∀ i (h : i < (least bs.length es bs.length).length), (least bs.length es bs.length)[i] < bs.length ∧ ∀ j (h2 : j < (least bs.length es bs.length).length), p (least bs.length es bs.length)[i] = p (least bs.length es bs.length)[j]) := by
        obtain ⟨t, _, h2⟩ := least_holds HGO.out.val bs.length (Nat.le_refl _)
        intro i hi
        obtain ⟨a1, a2, a3⟩ := h2 _ (List.getElem_mem hi)
        refine ⟨a1, fun j hj => ?_⟩
        obtain ⟨b1, b2, b3⟩ := h2 _ (List.getElem_mem hj)
        have := HP.out.reach a2
        have := HP.out.reach a3
        have := HP.out.reach b2
        have := HP.out.reach b3
        omega
      unfold graphV at HCY
      generalize least bs.length es bs.length = R at HCY HCE
      go_upto_block 2 with (go_at_call 16; refine HCY.out.mono ?_; rintro e w6 ⟨v, rfl, ho, hf⟩; obtain ⟨rp, cr, hv⟩ := own_shape ho; subst hv; have HRO := Lib.hid ho; have F8 := Lib.hid hf; clear ho hf c0 c1)
      go_cut [4, 12] from 77 to 121 (fun s4 s12 w8 => s4 = Value.bool false ∧ Hid (Fr No w6 w8))
      case first =>
        by_cases hR : R.length = 0
        · have hce : cycE R = 22 := by rw [cycE, if_pos hR]
          rw [hce]
          go_wp2
          refine wp_loop_rounds 1 ?_
          rw [rounds_succ]
          go_wp2
          go_meet
          exact ⟨rfl, Fr.refl _ _⟩
        · have hce : cycE R = 0 := by rw [cycE, if_neg hR]
          rw [hce]
          have R0 : 0 < R.length := by omega
          have HR0 := Lib.hid R0
          clear hce hR R0
          go_wp2
          go_loopw [4, 13] (fun v4 vi wr => v4 = .bool false ∧ ∃ i : Nat, vi = .int .i64 i ∧ (i : Int) ≤ R.length ∧ Hid (Fr No w6 wr)) (fun _ vi _ => R.length - (intOf vi).toNat)
          case atStart => exact ⟨rfl, 0, rfl, by omega, Fr.refl _ _⟩
          case round =>
            obtain ⟨rfl, i, rfl, i1, HI⟩ := hrel
            have i0 : (0 : Int) ≤ i := by omega
            by_cases hlt : (i : Int) < R.length
            · have hin : i < R.length := by omega
              have HMS : Hid (R.length - (intOf (Value.int IntKind.i64 ((i : Int) + 1))).toNat < R.length - (intOf (Value.int IntKind.i64 (i : Int))).toNat) := by
                show _ < _
                simp only [intOf]
                omega
              have FV := Lib.hid (((HV.out.trans F8.out)).trans HI.out)
              have y1 := (HCE.out i hin).1
              have y2 := (HCE.out 0 HR0.out).1
              have y3 := (HCE.out i hin).2 0 HR0.out
              obtain ⟨gc, e1, d1⟩ := own_get HRO.out HI.out (encN_get R hin)
              obtain ⟨gc2, e2, d2⟩ := own_get HRO.out HI.out (encN_get R HR0.out)
              subst e1
              injection e2 with e2
              injection e2 with e2
              subst e2
              obtain ⟨ga, e3, d3⟩ := own_get HPO.out FV.out (encP_get p y1)
              obtain ⟨ga2, e4, d4⟩ := own_get HPO.out FV.out (encP_get p y2)
              subst e3
              injection e4 with e4
              injection e4 with e4
              subst e4
              rw [← y3] at d4
              generalize p R[i] = va at d3 d4
              generalize R[i] = ya at d1 d3 y1
              generalize R[0] = yb at d2 d4 y2
              have a0 : (0 : Int) ≤ ya := by omega
              have a1 : (ya : Int) < bs.length := by omega
              have b0 : (0 : Int) ≤ yb := by omega
              have b1 : (yb : Int) < bs.length := by omega
              have g1 : decide ((ya : Int) < 0) = false := by simp
              have g2 : decide ((bs.length : Int) ≤ ya) = false := by simp; omega
              have g2n : decide (bs.length ≤ ya) = false := by simp; omega
              have rz : (0 : Int) < R.length := by omega
              have rb := own_max HRO.out
              clear y1 y2 y3 hin
              go_wp2_with fail
              go_quiet (fail)
              go_wp2
              go_roundw
              case rel => exact ⟨rfl, i + 1, by push_cast; rfl, by push_cast; omega, HI.out.trans (Fr.drewN _ _ _)⟩
              case measure => exact HMS.out
            · clear i1
              go_wp2
              go_meet
              exact ⟨rfl, HI.out⟩
      case rest =>
        obtain ⟨rfl, hcut⟩ := hcut
        have HW8 : Hid (Fr No W1 wc) := (HW.out.trans F8.out).trans hcut.out
        have HV8 : Hid (Fr No w5 wc) := (HV.out.trans F8.out).trans hcut.out
        have HRS : Hid (∀ w, Fr No W1 w → ∀ k : Nat, k < bs.length → ∃ (L : List Nat) (u s : Nat), L.length = u + 1 ∧ L[u]? = some k ∧ L[0]? = some s ∧ s < bs.length ∧ bs.getD s 0 = p k ∧ (∀ y ∈ L, y < bs.length ∧ decide (p k < p y) = false) ∧
            Calls Try.prog 17 #[.agg #[.slice a bs.length cap, .slice c raw.length cap'], .int .i64 (k : Int)] w fun e w' => ∃ v, e = .returned (.tuple #[v, .int .i64 0]) ∧ w'.ownsRow w.heap.size 3 1 v (u + 1) (encN L) ∧ Fr No w w') := fun w hf k hk => by
          obtain ⟨r1, ⟨s, s1, s2, s3⟩, r3⟩ := reason_holds HGO.out.val HP.out hk
          have hC := reason_ok (cap := cap) (cap' := cap') (HB.out.no hf) (HE.out.no hf) H0.out HGO.out k hk
          generalize reason bs.length (fun i => bs.getD i 0) es k = L at r1 s2 r3 hC
          rw [List.getLast?_eq_getElem?] at r1
          have hL : L.length ≠ 0 := fun e => by
            have := (List.getElem?_eq_some_iff.1 s2).1
            omega
          obtain ⟨u, hu⟩ : ∃ u, L.length = u + 1 := ⟨L.length - 1, by omega⟩
          rw [hu] at r1 hC
          exact ⟨L, u, s, hu, r1, s2, s1, s3, fun y hy => ⟨(r3 y hy).1, by have := (r3 y hy).2; simp; omega⟩, hC⟩
        clear hcut HCE HCY HW HV F8 HRO
        go_wp2
        go_loopw [4, 14] (fun v4 vi wr => v4 = .bool false ∧ ∃ k : Nat, vi = .int .i64 k ∧ (k : Int) ≤ bs.length ∧ Hid (Fr No wc wr)) (fun _ vi _ => bs.length - (intOf vi).toNat)
        case atStart => exact ⟨rfl, 0, rfl, by omega, Fr.refl _ _⟩
        case round =>
          obtain ⟨rfl, k, rfl, k1, HI⟩ := hrel
          have k0 : (0 : Int) ≤ k := by omega
          by_cases hlt : (k : Int) < bs.length
          · have hkn : k < bs.length := by omega
            have HMS : Hid (bs.length - (intOf (Value.int IntKind.i64 ((k : Int) + 1))).toNat < bs.length - (intOf (Value.int IntKind.i64 (k : Int))).toNat) := by
              show _ < _
              simp only [intOf]
              omega
            have c0 : wr.cell? ⟨x, 0, none⟩ = some (.slice a bs.length cap) := (HRG.out.fr (HW8.out.trans HI.out) id).cell 0
            have c1 : wr.cell? ⟨x, 1, none⟩ = some (.slice c raw.length cap') := (HRG.out.fr (HW8.out.trans HI.out) id).cell 1
            obtain ⟨L, u, s, hu, r1, r2, s1, s2, hall, hC⟩ := HRS.out wr (HW8.out.trans HI.out) k hkn
            have HC9 := Lib.hid hC
            have HALL := Lib.hid hall
            have HU := Lib.hid hu
            have HR1 := Lib.hid r1
            have HR2 := Lib.hid r2
            have HS1 := Lib.hid s1
            have HS2 := Lib.hid s2
            clear hC hall hu r1 r2 s1 s2
            go_upto_region 24 with (go_at_call 17; refine HC9.out.mono ?_; rintro e w9 ⟨v, rfl, ho, hf⟩; obtain ⟨lp, lc, hv⟩ := own_shape ho; subst hv; have HLO := Lib.hid ho; have F9 := Lib.hid hf; clear ho hf c0 c1)
            have c0 : w9.cell? ⟨x, 0, none⟩ = some (.slice a bs.length cap) := (HRG.out.fr ((HW8.out.trans HI.out).trans F9.out) id).cell 0
            have FV := Lib.hid ((HV8.out.trans HI.out).trans F9.out)
            have e0 : (encN L)[u]? = some (.int .i64 (k : Int)) := by simp [encN, HR1.out]
            have e00 : (encN L)[0]? = some (.int .i64 (s : Int)) := by simp [encN, HR2.out]
            obtain ⟨gl, e1, d1⟩ := own_get HLO.out (Fr.refl _ _) e0
            obtain ⟨gl2, e2, d2⟩ := own_get HLO.out (Fr.refl _ _) e00
            subst e1
            injection e2 with e2
            injection e2 with e2
            subst e2
            obtain ⟨ga, e3, d3⟩ := own_get HPO.out FV.out (encP_get p hkn)
            subst e3
            have HNB := HB.out.no ((HW8.out.trans HI.out).trans F9.out)
            obtain ⟨gb, off, e4, _, d4⟩ := HNB.get HS1.out
            subst e4
            rw [HS2.out] at d4
            have HPK : Hid (∀ y ∈ L, y < bs.length ∧ decide (p k < p y) = false) := HALL.out
            have s0 : (0 : Int) ≤ s := by omega
            have s1 : (s : Int) < bs.length := by have := HS1.out; omega
            have ub := own_max HLO.out
            have u0 : (0 : Int) ≤ u := by omega
            have g1 : (((u : Int) + 1) == 0) = false := by simp; omega
            have g2 : decide ((s : Int) < 0) = false := by simp
            have g3 : decide ((bs.length : Int) ≤ s) = false := by simp; omega
            have g3n : decide (bs.length ≤ s) = false := by simp; omega
            clear e0 e00 HNB hkn
            generalize hva : p k = va at d3 d4 HPK
            have HVA := Lib.hid hva
            clear hva
            go_quiet (fail)
            go_wp2
            go_loopw [4, 17] (fun v4 vi wr => v4 = .bool false ∧ ∃ i : Nat, vi = .int .i64 i ∧ (i : Int) ≤ (u : Int) + 1 ∧ Hid (Fr No w9 wr)) (fun _ vi _ => (u + 1) - (intOf vi).toNat)
            case atStart => exact ⟨rfl, 0, rfl, by omega, Fr.drewN _ _ _⟩
            case round =>
              obtain ⟨rfl, i, rfl, i1, HI2⟩ := hrel
              have i0 : (0 : Int) ≤ i := by omega
              clear d1 d2 d3 d4 g1 g2 g3 g3n c0
              by_cases hlt2 : (i : Int) < (u : Int) + 1
              · have hin : i < L.length := by have := HU.out; omega
                have HMS2 : Hid ((u + 1) - (intOf (Value.int IntKind.i64 ((i : Int) + 1))).toNat < (u + 1) - (intOf (Value.int IntKind.i64 (i : Int))).toNat) := by
                  show _ < _
                  simp only [intOf]
                  omega
                obtain ⟨y1, g4⟩ := HPK.out _ (List.getElem_mem hin)
                have FV2 := Lib.hid (FV.out.trans HI2.out)
                obtain ⟨gl2, e1, d1⟩ := own_get HLO.out HI2.out (encN_get L hin)
                injection e1 with e1
                injection e1 with e1
                subst e1
                obtain ⟨ga2, e3, d3⟩ := own_get HPO.out FV2.out (encP_get p y1)
                injection e3 with e3
                injection e3 with e3
                subst e3
                generalize p L[i] = vb at d3 g4
                obtain ⟨ga3, e5, d5⟩ := own_get HPO.out FV2.out (encP_get p (show k < bs.length by omega))
                injection e5 with e5
                injection e5 with e5
                subst e5
                rw [HVA.out] at d5
                generalize L[i] = ya at d1 d3 y1
                have a0 : (0 : Int) ≤ ya := by omega
                have a1 : (ya : Int) < bs.length := by omega
                have g1 : decide ((ya : Int) < 0) = false := by simp
                have g2 : decide ((bs.length : Int) ≤ ya) = false := by simp; omega
                have g2n : decide (bs.length ≤ ya) = false := by simp; omega
                clear y1 hin
                go_wp2_with fail
                go_quiet (fail)
                go_wp2
                go_roundw
                case rel => exact ⟨rfl, i + 1, by push_cast; rfl, by push_cast; omega, HI2.out.trans (Fr.drewN _ _ _)⟩
                case measure => exact HMS2.out
              · clear i1
                go_wp2
                go_roundw
                case rel => exact ⟨rfl, k + 1, by push_cast; rfl, by push_cast; omega, (HI.out.trans F9.out).trans HI2.out⟩
                case measure => exact HMS.out
          · clear k1
            go_wp2_with (go_at_call 6; refine (awake_any _).mono ?_; rintro e w9 ⟨rfl, f5⟩; have F9 := Lib.hid f5; clear f5)
            go_ret
            exact ⟨rfl, ((HFA.out.trans HW8.out).trans HI.out).trans F9.out⟩
end Go.Proofs.Yteikipiigbjgbaa
