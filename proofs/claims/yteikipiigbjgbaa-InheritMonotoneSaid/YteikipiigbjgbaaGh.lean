/- waiters. -/
import Derived.Test.YteikipiigbjgbaaGf
namespace Go.Proofs.Yteikipiigbjgbaa
open Go.RowKit
set_option linter.unusedVariables false

theorem ins_len (es : Es) (x : Nat) : (ins es x).length ≤ es.length := by unfold ins; rw [List.length_map]; exact List.length_filter_le _ _
set_option maxRecDepth 100000 in
set_option maxHeartbeats 4000000 in
theorem waiters_any (a c : Option Addr) (n cap cap' : Nat) (es : Es) (W : World) (hn : n ≤ 256) (hv : Val n es) (he : EdgesIn W c (emb es)) (hm : es.length ≤ 65536) :
    Calls Try.prog 32 #[.agg (graphV a n cap c es.length cap')] W fun e w' => ∃ g, e = .returned (.slice (some ⟨g, 0, none⟩) n n) ∧ ListsIn w' W.heap.size w'.heap.size g n (ins es) ∧ Fr No W w' := by
  have HF0 : Hid (Fr No W (W.alloc (.cells (graphV a n cap c es.length cap') 40))) := Fr.alloc _ _ _
  have HR0 := Lib.hid (RowAt.new W 40 (graphV a n cap c es.length cap'))
  have HN := Lib.hid hn
  have HM := Lib.hid hm
  have HV := Lib.hid hv
  have HE0 := Lib.hid (he.no HF0.out)
  have hmk := make_lists n hn
  have n0 : (0 : Int) ≤ n := by omega
  have n1 : (n : Int) ≤ 256 := by omega
  have HP : Hid (∀ W' : World, (∃ g, ListsIn W' W.heap.size W'.heap.size g n (ins es) ∧ Fr No W W') → True) := fun _ _ => trivial
  clear hn hm hv he HP
  unfold graphV at HF0 HR0 HE0 ⊢
  go_enter Try.func32, Try.ntmps32
  go_upto_region 1 with (fail)
  generalize World.alloc W _ = W1 at HF0 HR0 HE0 ⊢
  have HXL : Hid (W.heap.size < W1.heap.size) := HR0.out.lt
  generalize hx : W.heap.size = x at HR0 HXL ⊢
  have HX := Lib.hid hx
  clear hx
  have c0 : W1.cell? ⟨x, 0, none⟩ = some (.slice a n cap) := HR0.out.cell 0
  have c1 : W1.cell? ⟨x, 1, none⟩ = some (.slice c es.length cap') := HR0.out.cell 1
  go_upto_region 2 with (fail)
  have HG0 := Lib.hid (Grow.new (W := W1) n)
  have HF1 : Hid (Fr No W1 (W1.alloc (.cells (madeCells #[.slice none 0 0] n) 22))) := Fr.alloc _ _ _
  clear c0 c1 hmk
  generalize World.alloc W1 _ = W2 at HG0 HF1 ⊢
  generalize hg : W1.heap.size = g at HG0 HXL ⊢
  have HGE := Lib.hid hg
  clear hg
  have HR2 := Lib.hid (HR0.out.fr HF1.out id)
  have HE2 := Lib.hid (HE0.out.no HF1.out)
  have c1 : W2.cell? ⟨x, 1, none⟩ = some (.slice c es.length cap') := HR2.out.cell 1
  go_wp2
  clear c1
  go_loopw [13] (fun vi wr => ∃ i : Nat, vi = .int .i64 i ∧ Hid (i ≤ es.length ∧ (∃ V, Grow wr g g n (ins (es.take i)) V) ∧ Fr (fun k => g ≤ k) W2 wr)) (fun vi _ => es.length - (intOf vi).toNat)
  case atStart => exact ⟨0, rfl, Nat.zero_le _, ⟨_, HG0.out⟩, Fr.refl _ _⟩
  case round =>
    obtain ⟨i, rfl, HI⟩ := hrel
    have i0 : (0 : Int) ≤ i := by omega
    by_cases hi : i < es.length
    · have HEr : Hid (EdgesIn wr c (emb es)) := HE2.out.fr HI.out.2.2 (fun b off e e2 => by
        have h1 := HE0.out
        have h2 : b < W1.heap.size := by
          rcases h1 with h | ⟨b', off', e', h', _⟩
          · have : es.length = 0 := by rw [← emb_len, h]; rfl
            omega
          · rw [e] at e'; cases e'; exact h'
        have := HGE.out
        omega)
      obtain ⟨b, off, r, rfl, hb, hx, e0, e1⟩ := HEr.out.get (i := i) (by rw [emb_len]; exact hi)
      obtain ⟨⟨ew, eh⟩, hx2, rfl⟩ := emb_get hx
      have hval := HV.out _ (List.mem_of_getElem? hx2)
      have HT : Hid (es.take (i + 1) = es.take i ++ [(ew, eh)]) := by show _ = _; rw [List.take_add_one, hx2]; rfl
      have HLT : Hid (eh < n) := hval.2
      have HLN : Hid (∀ l : Nat → List Nat, l = ins (es.take i) → (l eh).length ≤ i) := fun l e => by rw [e]; exact Nat.le_trans (ins_len _ _) (by rw [List.length_take]; omega)
      have i1 : (i : Int) < es.length := by omega
      have HI1 := Lib.hid hi
      have HMS : Hid (es.length - (intOf (Value.int IntKind.i64 ((i : Int) + 1))).toNat < es.length - (intOf (Value.int IntKind.i64 (i : Int))).toNat) := by
        show _ < _
        simp only [intOf]
        omega
      have i2 : (i : Int) < 65536 := by have := HM.out; omega
      have e0' : wr.cell? ⟨b, off + i * 2, none⟩ = some (.int .i64 (ew : Int)) := e0
      have e1' : wr.cell? ⟨b, off + i * 2 + 1, none⟩ = some (.int .i64 (eh : Int)) := e1
      clear hi hx hx2 hb e0 e1 hval
      go_upto_region 5 with (fail)
      obtain ⟨V, hG⟩ := HI.out.2.1
      have HG := Lib.hid hG
      clear hG
      have HA := Lib.hid (RowAt.new wr 36 #[.int .i64 (ew : Int), .int .i64 (eh : Int)])
      have HF3 : Hid (Fr No wr (wr.alloc (.cells #[.int .i64 (ew : Int), .int .i64 (eh : Int)] 36))) := Fr.alloc _ _ _
      have HYE : Hid (g < wr.heap.size) := HG.out.row.lt
      clear e0' e1'
      generalize World.alloc wr _ = W3 at HA HF3 ⊢
      generalize hy : wr.heap.size = y at HA HYE ⊢
      have HY := Lib.hid hy
      clear hy
      have HG3 := Lib.hid (HG.out.fr HF3.out)
      have HFI : Hid (ins (es.take (i + 1)) = upF (ins (es.take i)) eh (ins (es.take i) eh ++ [ew])) := by
        show _ = _
        rw [HT.out]; funext j; rw [ins_snoc]; unfold upF
        by_cases e : j = eh
        · subst e; simp
        · rw [if_neg e, if_neg e]
      have HLN2 := Lib.hid (HLN.out _ rfl)
      generalize ins (es.take i) = f at HG HG3 HFI HLN2 ⊢
      obtain ⟨av, cv, hvw⟩ : ∃ av cv, V eh = .slice av (f eh).length cv := by obtain ⟨q1, q2, q3, _⟩ := own_num (HG3.out.own eh HLT.out); exact ⟨q1, q2, q3⟩
      have HVW := Lib.hid hvw
      have cV : W3.cell? ⟨g, eh, none⟩ = some (.slice av (f eh).length cv) := by rw [HG3.out.cell HLT.out, hvw]
      have d0 : W3.cell? ⟨y, 0, none⟩ = some (.int .i64 (ew : Int)) := HA.out.cell 0
      have d1 : W3.cell? ⟨y, 1, none⟩ = some (.int .i64 (eh : Int)) := HA.out.cell 1
      have fV : W3.frozen? ⟨g, eh, none⟩ = false := HG3.out.row.frozen eh
      have t0 : (0 : Int) ≤ eh := by omega
      have t1 : (eh : Int) < n := by have := HLT.out; omega
      have s0 : (0 : Int) ≤ ew := by omega
      have hg3 : ∀ o i, (W3.alloc o).cell? ⟨g, i, none⟩ = W3.cell? ⟨g, i, none⟩ := fun o i => World.cell?_of_block (heap_alloc_old _ _ HG3.out.row.lt)
      have hy3 : ∀ o i, (W3.alloc o).cell? ⟨y, i, none⟩ = W3.cell? ⟨y, i, none⟩ := fun o i => World.cell?_of_block (heap_alloc_old _ _ HA.out.lt)
      obtain ⟨z0, hi0, hz0, hz1, hz2⟩ := info_parts info_int
      have HI0 := Lib.hid hi0
      have HZ0 := Lib.hid hz0
      have HZ1 := Lib.hid hz1
      have HZ2 := Lib.hid hz2
      clear hi0 hz0 hz1 hz2 hvw
      have HO3 : Hid (W3.ownsRow g 3 1 (.slice av (f eh).length cv) (f eh).length (encN (f eh))) := by have := HG3.out.own eh HLT.out; rw [HVW.out] at this; exact this
      have HMAX : Hid ((f eh).length + 1 ≤ maxLen) := by have := HLN2.out; have := HM.out; have := HI1.out; show _ ≤ _; unfold maxLen; omega
      have HBYT : Hid (((f eh).length + 1) * 8 ≤ 140737488355328) := by have := HLN2.out; have := HM.out; have := HI1.out; show _ ≤ _; omega
      have HSZ : Hid ((World.drew (W3.alloc (.cells #[.int .i64 (ew : Int)] 3))).heap.size = W3.heap.size + 1) := by show (W3.alloc _).heap.size = _; simp
      have HLO4 : Hid (g ≤ (World.drew (W3.alloc (.cells #[.int .i64 (ew : Int)] 3))).heap.size) := by rw [HSZ.out]; have := HG3.out.row.lt; show g ≤ _; omega
      have HONE : Hid (∀ u ∈ [Value.int .i64 (ew : Int)], u.oneCell' = true) := by show ∀ u ∈ _, _; simp [Value.oneCell']
      have HFD : Hid (Fr No W3 (World.drew (W3.alloc (.cells #[.int .i64 (ew : Int)] 3)))) := (Fr.alloc _ _ _).trans (Fr.drew _ _)
      have HAP : Hid (∀ gg cap' w1, w1.ownsRow g 3 1 (.slice (some ⟨gg, 0, none⟩) ((f eh).length + 1) cap') ((f eh).length + 1) (encN (f eh) ++ [.int .i64 (ew : Int)]) → (World.drew (W3.alloc (.cells #[.int .i64 (ew : Int)] 3))).grownBy w1 (Value.slice av (f eh).length cv).ownBlock → ((Value.slice av (f eh).length cv).ownBlock = some gg ∨ gg = W3.heap.size + 1) →
          (w1.cell? ⟨g, eh, none⟩ = some (.slice av (f eh).length cv) ∧ w1.frozen? ⟨g, eh, none⟩ = false ∧ w1.cell? ⟨y, 0, none⟩ = some (.int .i64 (ew : Int)) ∧ w1.cell? ⟨y, 1, none⟩ = some (.int .i64 (eh : Int))) ∧ Hid (Fr (fun k => g ≤ k) wr w1 ∧ ∃ V', Grow (w1.setCell ⟨g, eh, none⟩ (.slice (some ⟨gg, 0, none⟩) ((f eh).length + 1) cap')) g g n (upF f eh (f eh ++ [ew])) V')) := by
        intro gg cap' w1 hown hgr hat
        have e1 : (V eh).ownBlock = (Value.slice av (f eh).length cv).ownBlock := by rw [HVW.out]
        obtain ⟨q1, q2, q3, q4⟩ := HG.out.step HLT.out (HF3.out.trans HFD.out) hown (by rw [e1]; exact hgr) (by rw [e1, HSZ.out]; exact hat)
        have q5 : RowAt w1 y 36 #[.int .i64 (ew : Int), .int .i64 (eh : Int)] := q1 _ _ _ (HA.out.fr HFD.out id) (Nat.le_of_eq HY.out)
        refine ⟨⟨?_, q2.frozen _, q5.cell 0, q5.cell 1⟩, q3.mono (fun k _ e => ((HG.out.own eh HLT.out).lt k e).1), _, q4⟩
        rw [q2.cell, ← HVW.out]; simp [HLT.out]
      go_region_law
        ((refine step_append_lies (World.drew (World.alloc W3 (.cells #[.int .i64 (ew : Int)] 3))) rfl (.tmp 24) (.tmp 27) 22 rfl g 3 z0 (.int .i64 0) 1 8 Try.underlying22 HI0.out HZ0.out HZ1.out HZ2.out rfl (by decide) (.slice av (f eh).length cv) (f eh).length (encN (f eh)) rfl ((HO3.out.alloc _).drew) ⟨W3.heap.size, 0, none⟩ 1 1 [.int .i64 (ew : Int)] rfl rfl (cell_one_new W3 _ _) HONE.out (by decide) HMAX.out HBYT.out HLO4.out (W3.heap.size + 1) HSZ.out ?_; intro gg cap2 w1 hown1 hgrow hat hlt2; obtain ⟨⟨cV', fV', d0', d1'⟩, HAPP⟩ := HAP.out gg cap2 w1 hown1 hgrow hat; clear hown1 hgrow hat hlt2))
      all_goals
        go_wp2
        go_roundw
        case rel => exact ⟨i + 1, by push_cast; rfl, HI1.out, by rw [HFI.out]; exact HAPP.out.2, HI.out.2.2.trans (HAPP.out.1.trans (Fr.set _ _ _ _ (Nat.le_refl _)))⟩
        case measure => exact HMS.out
    · have hil : i = es.length := by have := HI.out.1; omega
      have hlt : ¬ (i : Int) < es.length := by omega
      have HIL := Lib.hid hil
      clear hi hil
      go_wp2
      go_ret
      obtain ⟨V, hG⟩ := HI.out.2.1
      rw [HIL.out, List.take_length] at hG
      have hL := hG.lists
      refine ⟨g, rfl, ⟨?_, hL.g_, hL.hi_, fun j hj => ?_⟩, (HF0.out.trans HF1.out).over HI.out.2.2 (fun k e => .inr (by have := HF0.out.size; have := HGE.out; omega))⟩
      · have := HXL.out; have := HX.out; omega
      · obtain ⟨q1, q2, q3, q4, q5⟩ := hL.at_ j hj
        exact ⟨q1, q2, q3, q4, fun b off e => ⟨by have := (q5 b off e).1; have := HXL.out; have := HX.out; omega, (q5 b off e).2⟩⟩
end Go.Proofs.Yteikipiigbjgbaa
