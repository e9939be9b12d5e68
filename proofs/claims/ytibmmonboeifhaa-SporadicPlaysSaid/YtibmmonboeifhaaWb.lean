/- The reference's take. -/
import Derived.Test.YtibmmonboeifhaaWa
namespace Go.Proofs.Ytibmmonboeifhaa
open Go.RowKit
set_option linter.unusedVariables false

def RtI (lo B : Nat) (T b0 u : Int) (W : World) (s0 : AQ) (k : Nat) (wr : World) : Prop := ∃ (q : RQ) (s : AQ), RAt wr lo B T q s ∧ q.b0 = b0 ∧ s.l.length = k ∧ takeA u s = takeA u s0 ∧ Fr (fun k => lo ≤ k) W wr

set_option maxRecDepth 100000 in
set_option maxHeartbeats 2000000 in
theorem rtake_any {W : World} {lo B : Nat} {T b0 : Int} {s : AQ} (h : RS lo B T b0 s W) (u : Int) : Calls Try.prog 99 #[.pointer (some ⟨B, 0, none⟩), .int .i64 u] W (ToR lo B T b0 (takeA u s) W) := by
  have HI : Hid (RtI lo B T b0 u W s s.l.length W) := by
    obtain ⟨q, e, h⟩ := h
    exact ⟨q, s, h, e, rfl, rfl, Fr.refl _ _⟩
  obtain ⟨i0, hi0, hz0, hz1, hz2⟩ := info_parts info_rrep
  have HI0 := Lib.hid hi0
  have HZ0 := Lib.hid hz0
  have HZ1 := Lib.hid hz1
  have HZ2 := Lib.hid hz2
  clear h hi0 hz0 hz1 hz2
  go_enter Try.func99, Try.ntmps99
  go_wp2
  go_loopg [] s.l.length (fun k wr => Hid (RtI lo B T b0 u W s k wr))
  case atStart => exact HI
  case round =>
    have HR := hrel
    clear hrel HI
    obtain ⟨q, s1, h1, h2, h3, h4, h5⟩ := HR.out
    have HS := Lib.hid h1
    have HX := Lib.hid (And.intro h2 (And.intro h3 (And.intro h4 h5)))
    by_cases h0 : s1.l.length = 0
    · have H0 := Lib.hid h0
      obtain ⟨a, c, hv⟩ := own_shape h1.own
      have c5 : wr.cell? ⟨B, 5, none⟩ = some (.slice a s1.l.length c) := by rw [← hv]; exact h1.row.cell 5
      rw [h0] at c5
      clear h0 h1 h2 h3 h4 h5 HR hv
      go_wp2
      go_end0
      obtain ⟨e1, e2, e3, e4⟩ := HX.out
      have hl : s1.l = [] := List.length_eq_zero_iff.1 H0.out
      refine ⟨⟨_, rfl⟩, ?_, e4⟩
      rw [← e3, takeA_nil hl]
      exact ⟨q, e1, HS.out⟩
    · obtain ⟨x, r, hl⟩ : ∃ x r, s1.l = x :: r := by
        cases e : s1.l with
        | nil => rw [e] at h0; exact absurd rfl h0
        | cons x r => exact ⟨x, r, rfl⟩
      obtain ⟨g, cap, hv, hg, hcap, hcells, hfz⟩ := own_some h1.own (by omega)
      have hx0 := hcells 0 x (by rw [hl]; rfl)
      have c5 : wr.cell? ⟨B, 5, none⟩ = some (.slice (some ⟨g, 0, none⟩) s1.l.length cap) := by rw [← hv]; exact h1.row.cell 5
      have c4 : wr.cell? ⟨B, 4, none⟩ = some (.int .i64 s1.bud) := h1.row.cell 4
      have f4 : wr.frozen? ⟨B, 4, none⟩ = false := h1.row.frozen 4
      obtain ⟨d0, d1⟩ := hx0
      rw [Nat.zero_mul] at d0 d1
      rw [Nat.zero_add] at d1
      have l0 : (0 : Int) < s1.l.length := by omega
      have l1 : (s1.l.length : Int) ≤ 32 := by have := h1.ai.len; have := h1.c32; omega
      have a0 := h1.ai.amt x (by rw [hl]; simp)
      have a1 := h1.ai.sum
      have a2 := sumL_mem h1.ai.amt (show x ∈ s1.l by rw [hl]; simp)
      have a3 := h1.ai.chk0
      have a4 := h1.ai.tot
      have b0' : 0 ≤ s1.bud := h1.ai.bud0
      have b1 : s1.bud ≤ 1000000 := by omega
      have b2 : x.2 ≤ 1000000 := by omega
      have HL := Lib.hid hl
      have HGN : Hid (g ≠ B) := fun e => h1.ne (by rw [hv, e]; rfl)
      have HCE := Lib.hid hcells
      have HQV := Lib.hid hv
      have HCA : Hid (s1.l.length ≤ cap ∧ 0 < s1.l.length ∧ lo ≤ g) := ⟨hcap, by omega, hg⟩
      by_cases ht : x.1 ≤ u
      · have HT := Lib.hid ht
        clear h0 h1 h2 h3 h4 h5 HR hl hv hg hcells hfz a1 a2 a3 a4
        go_upto_region 1 with (fail)
        go_region
        all_goals
          have HF1 : Hid (Fr (fun k => lo ≤ k) wr (World.drew (wr.setCell ⟨B, 4, none⟩ (.int .i64 (s1.bud + x.2))))) := (Fr.set _ _ _ _ HS.out.lo).trans (Fr.drew _ _)
          have HR1 : Hid (RowAt (World.drew (wr.setCell ⟨B, 4, none⟩ (.int .i64 (s1.bud + x.2)))) B 103 (rCells q { s1 with bud := s1.bud + x.2 } (decide (0 < s1.chk)))) := HS.out.row.set 4 _
          have HC1 : Hid (∀ j y, (encP r)[j]? = some y → (World.drew (wr.setCell ⟨B, 4, none⟩ (.int .i64 (s1.bud + x.2)))).cell? ⟨g, 2 + j, none⟩ = some y) := fun j y hy => by
            have hb : ((wr.setCell ⟨B, 4, none⟩ (.int .i64 (s1.bud + x.2))).heap)[g]? = wr.heap[g]? := heap_setCell_other _ _ _ _ HGN.out
            have e := HS.out.own
            rw [HQV.out] at e
            rw [← own_cells e (2 + j) y (by rw [HL.out, encP, Nat.add_comm]; exact hy)]
            exact World.cell?_of_block hb
          have HG1 : Hid (g < (World.drew (wr.setCell ⟨B, 4, none⟩ (.int .i64 (s1.bud + x.2)))).heap.size) := by
            have := World.block_lt_of_cell? wr _ (HCE.out 0 x (by rw [HL.out]; rfl)).1
            show g < (wr.setCell _ _).heap.size
            simpa using this
          have HLO : Hid (lo ≤ (World.drew (wr.setCell ⟨B, 4, none⟩ (.int .i64 (s1.bud + x.2)))).heap.size) := by have := HG1.out; have := HCA.out; show lo ≤ _; omega
          have HV : Hid (q.v = .slice (some ⟨g, 0, none⟩) s1.l.length cap) := HQV.out
          clear c5 c4 f4 d0 d1
          generalize World.drew (wr.setCell ⟨B, 4, none⟩ (.int .i64 (s1.bud + x.2))) = W1 at HF1 HR1 HC1 HG1 HLO ⊢
          have c5 : W1.cell? ⟨B, 5, none⟩ = some (.slice (some ⟨g, 0, none⟩) s1.l.length cap) := by rw [← HV.out]; exact HR1.out.cell 5
          have f5 : W1.frozen? ⟨B, 5, none⟩ = false := HR1.out.frozen 5
          have hB : B < W1.heap.size := HR1.out.lt
          have hB3 : ∀ o i, (W1.alloc o).cell? ⟨B, i, none⟩ = W1.cell? ⟨B, i, none⟩ := fun o i => World.cell?_of_block (heap_alloc_old _ _ HR1.out.lt)
          by_cases hc1 : cap = 1
          · have hl1 : s1.l.length = 1 := by have := HCA.out; omega
            rw [hl1, hc1] at c5
            clear hc1
            clear hB3 hB
            have hr : r = [] := by have e := congrArg List.length HL.out; simp only [List.length_cons] at e; exact List.length_eq_zero_iff.1 (by omega)
            have HRN := Lib.hid hr
            have H1 := Lib.hid hl1
            clear hr hl1
            have hB : B < W1.heap.size := HR1.out.lt
            have hB3 : ∀ o i, (W1.alloc o).cell? ⟨B, i, none⟩ = W1.cell? ⟨B, i, none⟩ := fun o i => World.cell?_of_block (heap_alloc_old _ _ HR1.out.lt)
            go_wp2
            have ho : ((W1.setCell ⟨B, 5, none⟩ (.slice (some ⟨W1.heap.size, 0, none⟩) 0 0)).alloc (.cells #[] 105)).ownsRow W1.heap.size 105 2 (.slice (some ⟨W1.heap.size, 0, none⟩) 0 0) 0 [] := by
              have := World.ownsRow_made (base := W1.heap.size) (e := 105) (size := 2) (W1.setCell ⟨B, 5, none⟩ (.slice (some ⟨W1.heap.size, 0, none⟩) 0 0)) #[] 0 (by simp) (by decide) rfl
              simpa using this
            have HO := Lib.hid ho
            clear ho hB3 c5 f5
            go_roundg 0
            case rel =>
              obtain ⟨e1, e2, e3, e4⟩ := HX.out
              have hs := HS.out
              have hai := hs.ai
              have hsum := hai.sum
              have hln := hai.len
              rw [HL.out, sumL_cons] at hsum
              rw [HL.out] at hln
              refine ⟨{ q with v := .slice (some ⟨W1.heap.size, 0, none⟩) 0 0 }, { s1 with bud := s1.bud + x.2, l := r }, ⟨(HR1.out.set 5 (.slice (some ⟨W1.heap.size, 0, none⟩) 0 0)).fr (Fr.alloc (fun _ => False) _ _) id, ?_, ?_, hs.lo, ⟨hai.per0, hai.per1, hai.cap0, Nat.le_of_succ_le hln, ?_, hai.chk0, fun y hy => hai.amt y (by rw [HL.out]; exact List.mem_cons_of_mem _ hy), ?_, hai.tot, hai.ran0, hai.ran1⟩, hs.op, hs.rt, hs.c32⟩, e1, by rw [HRN.out]; rfl, ?_, ?_⟩
              · rw [HRN.out]; exact own_base HO.out HLO.out
              · intro e
                have e' : some W1.heap.size = some B := e
                injection e' with e'
                have := HR1.out.lt
                omega
              · have := hai.bud0; have := hai.amt x (by rw [HL.out]; simp); show 0 ≤ s1.bud + x.2; omega
              · show s1.bud + x.2 + sumL r + s1.chk = T; omega
              · rw [takeA_yes HL.out HT.out]; exact e3
              · exact e4.trans (HF1.out.trans ((Fr.set _ _ _ _ hs.lo).trans (Fr.alloc _ _ _)))
            case measure => have := HX.out.2.1; have := H1.out; omega
          · have hc2 : (1 : Int) < cap := by have := HCA.out; omega
            go_wp2_with (at_builtin; refine wpList_append_own _ rfl _ _ 63 rfl W1.heap.size 105 i0 (.agg #[.int .i64 0, .int .i64 0]) 2 16 Try.underlying63 HI0.out HZ0.out HZ1.out HZ2.out rfl (by decide) _ _ _ rfl (World.ownsRow_made W1 #[] 0 (Nat.le_refl _) (by decide) rfl) ⟨g, 2, none⟩ (s1.l.length - 1) (cap - 1) (encP r) rfl ?hl ?c1 ?c2 ?c3 ?c4 ?c5 ?_)
            case hl => rw [encP_len]; have e := congrArg List.length HL.out; simp only [List.length_cons] at e; omega
            case c1 => exact fun j u hj => by rw [Addr.add_mid, World.cell?_of_block (heap_alloc_old _ _ HG1.out)]; exact HC1.out j u hj
            case c2 => exact encP_one r
            case c3 => have := HCA.out; unfold maxLen; omega
            case c4 => omega
            case c5 => simp
            intro v' w1 hown hgrow _
            have hown' : w1.ownsRow W1.heap.size 105 2 v' r.length (encP r) := by
              have e := congrArg List.length HL.out
              simp only [List.length_cons] at e
              have e2 : s1.l.length - 1 = r.length := by omega
              rw [e2] at hown
              simpa using hown
            obtain ⟨ao, co, rfl⟩ := own_shape hown'
            have HO := Lib.hid hown'
            have HF2 : Hid (Fr (fun k => k = W1.heap.size) W1 w1) := (Fr.alloc _ _ _).trans (Fr.grown hgrow (fun k e => by cases e; rfl))
            have HR2 := Lib.hid (HR1.out.fr HF2.out (Nat.ne_of_lt HR1.out.lt))
            have c5' : w1.cell? ⟨B, 5, none⟩ = some q.v := HR2.out.cell 5
            have f5' : w1.frozen? ⟨B, 5, none⟩ = false := HR2.out.frozen 5
            clear hown hgrow hown' c5 f5 hB3 hB
            go_wp2
            go_roundg r.length
            case rel =>
              obtain ⟨e1, e2, e3, e4⟩ := HX.out
              have hs := HS.out
              have hai := hs.ai
              have hsum := hai.sum
              have hln := hai.len
              rw [HL.out, sumL_cons] at hsum
              rw [HL.out] at hln
              refine ⟨{ q with v := .slice ao r.length co }, { s1 with bud := s1.bud + x.2, l := r }, ⟨HR2.out.set 5 (.slice ao r.length co), ?_, ?_, hs.lo, ⟨hai.per0, hai.per1, hai.cap0, Nat.le_of_succ_le hln, ?_, hai.chk0, fun y hy => hai.amt y (by rw [HL.out]; exact List.mem_cons_of_mem _ hy), ?_, hai.tot, hai.ran0, hai.ran1⟩, hs.op, hs.rt, hs.c32⟩, e1, rfl, ?_, ?_⟩
              · exact own_fr2 (own_base HO.out HLO.out) (Fr.set (S := fun k => k = B) _ _ _ _ rfl) (fun k e e2 => by have := (HO.out.lt k e).1; have := HR1.out.lt; omega)
              · intro e
                have := (HO.out.lt _ e).1
                have := HR1.out.lt
                omega
              · have := hai.bud0; have := hai.amt x (by rw [HL.out]; simp); show 0 ≤ s1.bud + x.2; omega
              · show s1.bud + x.2 + sumL r + s1.chk = T; omega
              · rw [takeA_yes HL.out HT.out]; exact e3
              · exact e4.trans (HF1.out.trans ((HF2.out.mono (fun k hk e => by rw [e]; exact HLO.out)).trans (Fr.set _ _ _ _ hs.lo)))
            case measure => have e := congrArg List.length HL.out; have := HX.out.2.1; simp only [List.length_cons] at e; omega
      · have HT := Lib.hid ht
        have ht' : u < x.1 := by omega
        clear h0 h1 h2 h3 h4 h5 HR hl hv hg hcells hfz a1 a2 a3 a4 ht
        go_wp2
        go_end0
        obtain ⟨e1, e2, e3, e4⟩ := HX.out
        refine ⟨⟨_, rfl⟩, ?_, e4⟩
        rw [← e3, takeA_no HL.out (by have := HT.out; omega)]
        exact ⟨q, e1, HS.out⟩
end Go.Proofs.Ytibmmonboeifhaa
