/- checkEdges, Check. -/
import Derived.Test.YteikipiigbjgbaaGc
namespace Go.Proofs.Yteikipiigbjgbaa
open Go.RowKit Go.WideMaps Go.ChangeMaps
set_option linter.unusedVariables false

theorem chkE_cons (n : Nat) (es : Raw) (i : Nat) (e : Int × Int) (h : es[i]? = some e) : chkE n (es.drop i) (es.take i) = if joinsB n e = true then (if e ∈ es.take i then 38 else chkE n (es.drop (i + 1)) (es.take (i + 1))) else 34 := by
  obtain ⟨hi, he⟩ := List.getElem?_eq_some_iff.1 h
  rw [List.drop_eq_getElem_cons hi, he, chkE, List.take_add_one, h]; rfl
/-- What the walk carries: the graph's block, the map, the edges that were seen. -/
structure CE (n : Nat) (es : Raw) (c : Option Addr) (W W2 : World) (x bm : Nat) (G : Array Value) (i : Nat) (wr : World) : Prop where
  le : i ≤ es.length
  ok : ∀ k ∈ es.take i, joinsB n k = true
  eq : chkE n (es.drop i) (es.take i) = chkE n es []
  map : MapE wr bm (es.take i)
  fr : Fr (fun k => k = bm) W2 wr
set_option maxRecDepth 100000 in
set_option maxHeartbeats 2000000 in
theorem checkedges_any (a c : Option Addr) (n cap cap' : Nat) (es : Raw) (W : World) (hn : n ≤ 256) (he : EdgesIn W c es) (hm : es.length ≤ 65536) :
    Calls Try.prog 30 #[.agg (graphV a n cap c es.length cap')] W fun e w' => e = .returned (.int .i64 (chkE n es [])) ∧ Fr No W w' := by
  have HF0 : Hid (Fr No W (W.alloc (.cells (graphV a n cap c es.length cap') 40))) := Fr.alloc _ _ _
  have HR0 := Lib.hid (RowAt.new W 40 (graphV a n cap c es.length cap'))
  have HN := Lib.hid hn
  have HM := Lib.hid hm
  have HE0 := Lib.hid (he.no HF0.out)
  have HEL : Hid (∀ b off, c = some ⟨b, off, none⟩ → es ≠ [] → b < W.heap.size) := fun b off e hne => by
    rcases he with h | ⟨b', off', e', h', _⟩
    · exact absurd h hne
    · rw [e] at e'; cases e'; exact h'
  have HV : Hid (chkE n es [] = chkE n es []) := rfl
  generalize hv : chkE n es [] = v
  have HVV := Lib.hid hv
  clear hv HV hn hm he
  unfold graphV at HF0 HR0 HE0 ⊢
  have hmk := make_hint
  go_enter Try.func30, Try.ntmps30
  go_upto_region 1 with (fail)
  generalize hW1 : World.alloc W _ = W1 at HF0 HR0 HE0 ⊢
  have HXL : Hid (W.heap.size < W1.heap.size) := HR0.out.lt
  clear hW1
  generalize hx : W.heap.size = x at HR0 HXL HEL ⊢
  have HX := Lib.hid hx
  clear hx
  have c0 : W1.cell? ⟨x, 0, none⟩ = some (.slice a n cap) := HR0.out.cell 0
  have c1 : W1.cell? ⟨x, 1, none⟩ = some (.slice c es.length cap') := HR0.out.cell 1
  go_upto_region 2 with (fail)
  have HMP := Lib.hid (MapE.new W1)
  have HF1 : Hid (Fr No W1 (W1.alloc (.map #[] 0))) := Fr.alloc _ _ _
  clear c0 c1 hmk
  generalize World.alloc W1 _ = W2 at HMP HF1 ⊢
  generalize hbm : W1.heap.size = bm at HMP HXL ⊢
  have HBM := Lib.hid hbm
  clear hbm
  have HR2 := Lib.hid (HR0.out.fr HF1.out id)
  have HE2 := Lib.hid (HE0.out.no HF1.out)
  have c0 : W2.cell? ⟨x, 0, none⟩ = some (.slice a n cap) := HR2.out.cell 0
  have c1 : W2.cell? ⟨x, 1, none⟩ = some (.slice c es.length cap') := HR2.out.cell 1
  go_wp2
  clear c0 c1
  go_loopw [13] (fun vi wr => ∃ i : Nat, vi = .int .i64 i ∧ Hid (CE n es c W W2 x bm #[] i wr)) (fun vi _ => es.length - (intOf vi).toNat)
  case atStart => exact ⟨0, rfl, Nat.zero_le _, (fun _ h => nomatch h), rfl, HMP.out, Fr.refl _ _⟩
  case round =>
    obtain ⟨i, rfl, HI⟩ := hrel
    have i0 : (0 : Int) ≤ i := by omega
    have HRr : Hid (RowAt wr x 40 #[.slice a n cap, .slice c es.length cap']) := HR2.out.fr HI.out.fr (fun e => by have := HXL.out; omega)
    have HEr : Hid (EdgesIn wr c es) := by
      by_cases hne : es = []
      · exact .inl hne
      · exact HE2.out.fr HI.out.fr (fun b off e e2 => by have := HEL.out b off e hne; have := HXL.out; omega)
    by_cases hi : i < es.length
    · obtain ⟨b, off, e, rfl, hb, hx, e0, e1⟩ := HEr.out.get hi
      have HS := Lib.hid (chkE_cons n es i e hx)
      have HT : Hid (es.take (i + 1) = es.take i ++ [e]) := by show _ = _; rw [List.take_add_one, hx]; rfl
      have i1 : (i : Int) < es.length := by omega
      have HI1 := Lib.hid hi
      have HMS : Hid (es.length - (intOf (Value.int IntKind.i64 ((i : Int) + 1))).toNat < es.length - (intOf (Value.int IntKind.i64 (i : Int))).toNat) := by
        show _ < _
        simp only [intOf]
        omega
      have i2 : (i : Int) < 65536 := by have := HM.out; omega
      clear hi hx hb
      obtain ⟨ew, eh⟩ := e
      have e0' : wr.cell? ⟨b, off + i * 2, none⟩ = some (.int .i64 ew) := e0
      have e1' : wr.cell? ⟨b, off + i * 2 + 1, none⟩ = some (.int .i64 eh) := e1
      clear e0 e1
      go_upto_region 5 with (fail)
      have HA := Lib.hid (RowAt.new wr 36 #[.int .i64 ew, .int .i64 eh])
      have HF3 : Hid (Fr No wr (wr.alloc (.cells #[.int .i64 ew, .int .i64 eh] 36))) := Fr.alloc _ _ _
      clear e0' e1'
      generalize World.alloc wr _ = W3 at HA HF3 ⊢
      generalize wr.heap.size = y at HA ⊢
      have HR3 := Lib.hid (HRr.out.fr HF3.out id)
      have HC := Lib.hid (joins_any a (some ⟨b, off, none⟩) n cap es.length cap' ew eh)
      unfold graphV at HC
      cases hj : joinsB n (ew, eh)
      · rw [hj] at HC
        have HJ := Lib.hid hj
        clear hj
        go_wp2_with (first
          | (refine wpList_load_mid rfl 40 (Operand.tmp 1) rfl x 0 rfl [_, _] _ HR3.out.range Try.underlying40 rfl size_graph ?_)
          | (refine wpList_load_mid rfl 36 (Operand.tmp 5) rfl y 0 rfl [_, _] _ HA.out.range Try.underlying36 rfl size_edge ?_)
          | (go_at_call 37; refine (HC.out _).mono ?_; rintro e W4 ⟨rfl, h4⟩))
        go_ret
        exact ⟨by rw [← HVV.out, ← HI.out.eq, HS.out, HJ.out] <;> rfl, ((HF0.out.trans HF1.out).over HI.out.fr (fun k e => .inr (by rw [e, ← HBM.out]; exact HF0.out.size))).trans (HF3.out.trans h4)⟩
      · rw [hj] at HC
        have HJ := Lib.hid hj
        clear hj
        have HMP3 := Lib.hid (HI.out.map.fr HF3.out id)
        have HL : Hid (∀ W4, Fr No W3 W4 → (Instr.lookup 85 (.map (some bm)) (edgeV (ew, eh)) false).run Try.prog W4 = .ok (.bool (decide ((ew, eh) ∈ es.take i))) W4) := fun W4 h4 => (HMP3.out.fr h4 id).look HN.out HI.out.ok HJ.out
        by_cases hin : (ew, eh) ∈ es.take i
        · have HIN := Lib.hid hin
          rw [decide_eq_true hin] at HL
          clear hin
          go_wp2_with (first
            | (refine wpList_load_mid rfl 40 (Operand.tmp 1) rfl x 0 rfl [_, _] _ HR3.out.range Try.underlying40 rfl size_graph ?_)
            | (refine wpList_load_mid rfl 36 (Operand.tmp 5) rfl y 0 rfl [_, _] _ HA.out.range Try.underlying36 rfl size_edge ?_)
            | (refine wpList_load_mid rfl 36 (Operand.tmp 5) rfl y 0 rfl [_, _] _ (HA.out.fr H4.out id).range Try.underlying36 rfl size_edge ?_)
            | (refine wpList_look rfl (Operand.tmp 23) (Operand.tmp 24) 85 rfl _ _ rfl rfl _ (HL.out _ H4.out) ?_)
            | (go_at_call 37; refine (HC.out _).mono ?_; rintro e W4 ⟨rfl, h4⟩; have H4 := Lib.hid h4; clear h4))
          go_ret
          exact ⟨by rw [← HVV.out, ← HI.out.eq, HS.out, if_pos HJ.out, if_pos HIN.out] <;> rfl, ((HF0.out.trans HF1.out).over HI.out.fr (fun k e => .inr (by rw [e, ← HBM.out]; exact HF0.out.size))).trans (HF3.out.trans H4.out)⟩
        · have HIN := Lib.hid hin
          rw [decide_eq_false hin] at HL
          clear hin
          go_wp2_with (first
            | (refine wpList_load_mid rfl 40 (Operand.tmp 1) rfl x 0 rfl [_, _] _ HR3.out.range Try.underlying40 rfl size_graph ?_)
            | (refine wpList_load_mid rfl 36 (Operand.tmp 5) rfl y 0 rfl [_, _] _ HA.out.range Try.underlying36 rfl size_edge ?_)
            | (refine wpList_load_mid rfl 36 (Operand.tmp 5) rfl y 0 rfl [_, _] _ (HA.out.fr H4.out id).range Try.underlying36 rfl size_edge ?_)
            | (refine wpList_look rfl (Operand.tmp 23) (Operand.tmp 24) 85 rfl _ _ rfl rfl _ (HL.out _ H4.out) ?_)
            | (refine wpList_upd rfl (Operand.tmp 26) (Operand.tmp 27) (Operand.const (Value.bool true)) 85 rfl _ _ _ rfl rfl rfl HU.out.1 ?_)
            | (go_at_call 37; refine (HC.out _).mono ?_; rintro e W4 ⟨rfl, h4⟩; have H4 := Lib.hid h4; clear h4; obtain ⟨W5, hu⟩ := (HMP3.out.fr H4.out id).put HN.out HI.out.ok HJ.out HIN.out; have HU := Lib.hid hu; clear hu))
          go_roundw
          case rel =>
            refine ⟨i + 1, by push_cast; rfl, HI1.out, ?_, ?_, ?_, ?_⟩
            · intro k hk
              rw [HT.out, List.mem_append, List.mem_singleton] at hk
              rcases hk with hk | rfl
              · exact HI.out.ok k hk
              · exact HJ.out
            · rw [← HI.out.eq, HS.out, if_pos HJ.out, if_neg HIN.out]
            · rw [HT.out]; exact HU.out.2.1
            · exact (HI.out.fr.trans ((HF3.out.trans H4.out).any)).trans HU.out.2.2
          case measure => exact HMS.out
    · have hil : i = es.length := by have := HI.out.le; omega
      have hlt : ¬ (i : Int) < es.length := by omega
      have HIL := Lib.hid hil
      clear hi hil
      go_wp2
      go_ret
      exact ⟨by rw [← HVV.out, ← HI.out.eq, HIL.out, List.drop_length] <;> rfl, (HF0.out.trans HF1.out).over HI.out.fr (fun k e => .inr (by rw [e, ← HBM.out]; exact HF0.out.size))⟩
end Go.Proofs.Yteikipiigbjgbaa
