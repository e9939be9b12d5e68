/- The reference's Next, Replenishments. -/
import Derived.Test.YtibmmonboeifhaaWg
namespace Go.Proofs.Ytibmmonboeifhaa
open Go.RowKit
set_option linter.unusedVariables false

set_option maxRecDepth 100000 in
theorem rnext_any {W : World} {lo B : Nat} {T b0 : Int} {s : AQ} (h : RS lo B T b0 s W) : Calls Try.prog 35 #[.pointer (some ⟨B, 0, none⟩)] W (VR lo B T b0 (.tuple #[.int .i64 (nextV s).1, .bool (nextV s).2]) s W) := by
  have HH := Lib.hid h
  obtain ⟨q, hq, h⟩ := h
  by_cases h0 : s.l.length = 0
  · obtain ⟨a, c, hv⟩ := own_shape h.own
    have c5 : W.cell? ⟨B, 5, none⟩ = some (.slice a s.l.length c) := by rw [← hv]; exact h.row.cell 5
    rw [h0] at c5
    have HV : Hid (nextV s = (0, false)) := by
      show _ = _
      rw [nextV, List.length_eq_zero_iff.1 h0]
    generalize nextV s = v at HV ⊢
    clear h0 h hv hq
    go_enter Try.func35, Try.ntmps35
    go_wp2
    go_ret2
    exact ⟨by rw [HV.out] <;> rfl, HH.out, Fr.refl _ _⟩
  · obtain ⟨x, r, hl⟩ : ∃ x r, s.l = x :: r := by
      cases e : s.l with
      | nil => rw [e] at h0; exact absurd rfl h0
      | cons x r => exact ⟨x, r, rfl⟩
    obtain ⟨g, cap, hv, hg, hcap, hcells, hfz⟩ := own_some h.own (by omega)
    have hx0 := hcells 0 x (by rw [hl]; rfl)
    have c5 : W.cell? ⟨B, 5, none⟩ = some (.slice (some ⟨g, 0, none⟩) s.l.length cap) := by rw [← hv]; exact h.row.cell 5
    obtain ⟨d0, d1⟩ := hx0
    rw [Nat.zero_mul] at d0 d1
    rw [Nat.zero_add] at d1
    have l0 : (0 : Int) < s.l.length := by omega
    have l1 : (s.l.length : Int) ≤ 32 := by have := h.ai.len; have := h.c32; omega
    have HV : Hid (nextV s = (x.1, true)) := by
      show _ = _
      rw [nextV, hl]
    generalize nextV s = v at HV ⊢
    clear h0 h hv hq hg hcells hfz hl hcap
    go_enter Try.func35, Try.ntmps35
    go_wp2
    go_ret2
    exact ⟨by rw [HV.out] <;> rfl, HH.out, Fr.refl _ _⟩

/-- A new slice that holds the list. -/
def RlE (s : AQ) (W : World) (e : Ending) (w' : World) : Prop := ∃ v, e = .returned v ∧ w'.ownsRow W.heap.size 105 2 v s.l.length (encP s.l) ∧ Fr (fun _ => False) W w'

set_option maxRecDepth 100000 in
set_option maxHeartbeats 2000000 in
theorem rrepl_any {W : World} {lo B : Nat} {T b0 : Int} {s : AQ} (h : RS lo B T b0 s W) : Calls Try.prog 33 #[.pointer (some ⟨B, 0, none⟩)] W (RlE s W) := by
  have HH := Lib.hid h
  obtain ⟨i0, hi0, hz0, hz1, hz2⟩ := info_parts info_rrep
  have HI0 := Lib.hid hi0
  have HZ0 := Lib.hid hz0
  have HZ1 := Lib.hid hz1
  have HZ2 := Lib.hid hz2
  obtain ⟨q, hq, h⟩ := h
  have hB : B < W.heap.size := h.row.lt
  have hB3 : ∀ o i, (W.alloc o).cell? ⟨B, i, none⟩ = W.cell? ⟨B, i, none⟩ := fun o i => World.cell?_of_block (heap_alloc_old _ _ hB)
  clear hi0 hz0 hz1 hz2
  by_cases h0 : s.l.length = 0
  · have HE : Hid (s.l = []) := List.length_eq_zero_iff.1 h0
    have hown := h.own
    have hc5 : W.cell? ⟨B, 5, none⟩ = some q.v := h.row.cell 5
    rw [h0] at hown
    have done : ∀ w1, w1.ownsRow W.heap.size 105 2 (.slice (some ⟨W.heap.size, 0, none⟩) 0 0) 0 [] → Fr (fun k => k = W.heap.size) W w1 → RlE s W (.returned (.slice (some ⟨W.heap.size, 0, none⟩) 0 0)) w1 := fun w1 ho hf => ⟨_, rfl, by rw [HE.out]; exact ho, hf.mono (fun k hk e => by omega)⟩
    have hmade : (W.alloc (.cells #[] 105)).ownsRow W.heap.size 105 2 (.slice (some ⟨W.heap.size, 0, none⟩) 0 0) 0 [] := by
      have := World.ownsRow_made (base := W.heap.size) (e := 105) (size := 2) W #[] 0 (Nat.le_refl _) (by decide) rfl
      simpa using this
    have HD := Lib.hid done
    have HM := Lib.hid hmade
    rcases hown.2 with ⟨hv, _⟩ | ⟨g, cap, cur, hv, _⟩
    · have c5 : W.cell? ⟨B, 5, none⟩ = some (.slice none 0 0) := by rw [← hv]; exact hc5
      clear h0 h hv hq hown hc5 done hmade
      go_enter Try.func33, Try.ntmps33
      go_wp2
      go_ret
      exact HD.out _ HM.out (Fr.alloc _ _ _)
    · have c5 : W.cell? ⟨B, 5, none⟩ = some (.slice (some ⟨g, 0, none⟩) 0 cap) := by rw [← hv]; exact hc5
      clear h0 h hv hq hown hc5 done hmade
      go_enter Try.func33, Try.ntmps33
      go_wp2_with (at_builtin; refine wpList_append_own _ rfl _ _ 63 rfl W.heap.size 105 i0 (.agg #[.int .i64 0, .int .i64 0]) 2 16 Try.underlying63 HI0.out HZ0.out HZ1.out HZ2.out rfl (by decide) _ _ _ rfl (World.ownsRow_made W #[] 0 (Nat.le_refl _) (by decide) rfl) ⟨g, 0, none⟩ 0 cap [] rfl rfl ?c1 ?c2 ?c3 ?c4 ?c5 ?_)
      case c1 => exact fun j u hj => nomatch hj
      case c2 => exact fun u hu => nomatch hu
      case c3 => unfold maxLen; omega
      case c4 => omega
      case c5 => simp
      intro v' w1 hown hgrow _
      have HO : Hid (w1.ownsRow W.heap.size 105 2 v' 0 []) := by show World.ownsRow _ _ _ _ _ _ _; simpa using hown
      have HF2 : Hid (Fr (fun k => k = W.heap.size) W w1) := (Fr.alloc _ _ _).trans (Fr.grown hgrow (fun k e => by cases e; rfl))
      clear hown hgrow HD
      go_wp2
      go_ret
      exact ⟨_, rfl, by rw [HE.out]; exact HO.out, HF2.out.mono (fun k hk e => by omega)⟩
  · obtain ⟨g, cap, hv, hg, hcap, hcells, hfz⟩ := own_some h.own (by omega)
    have c5 : W.cell? ⟨B, 5, none⟩ = some (.slice (some ⟨g, 0, none⟩) s.l.length cap) := by rw [← hv]; exact h.row.cell 5
    have l0 : (0 : Int) < s.l.length := by omega
    have l1 : (s.l.length : Int) ≤ 32 := by have := h.ai.len; have := h.c32; omega
    have HL1 : Hid (s.l.length ≤ 32) := by show _ ≤ _; omega
    have HC1 : Hid (∀ j y, (encP s.l)[j]? = some y → (W.alloc (.cells #[] 105)).cell? ⟨g, j, none⟩ = some y) := fun j y hy => by
      have e := h.own
      rw [hv] at e
      have hlt := (h.own.lt g (by rw [hv]; rfl)).2
      rw [World.cell?_of_block (heap_alloc_old _ _ hlt)]
      exact own_cells e j y hy
    have HCA : Hid (s.l.length ≤ cap) := hcap
    clear h0 h hv hq hg hcells hfz hcap
    go_enter Try.func33, Try.ntmps33
    go_wp2_with (at_builtin; refine wpList_append_own _ rfl _ _ 63 rfl W.heap.size 105 i0 (.agg #[.int .i64 0, .int .i64 0]) 2 16 Try.underlying63 HI0.out HZ0.out HZ1.out HZ2.out rfl (by decide) _ _ _ rfl (World.ownsRow_made W #[] 0 (Nat.le_refl _) (by decide) rfl) ⟨g, 0, none⟩ s.l.length cap (encP s.l) rfl ?hl ?c1 ?c2 ?c3 ?c4 ?c5 ?_)
    case hl => rw [encP_len]
    case c1 => exact fun j u hj => by rw [Addr.add_mid, Nat.zero_add]; exact HC1.out j u hj
    case c2 => exact encP_one s.l
    case c3 => have := HL1.out; unfold maxLen; omega
    case c4 => omega
    case c5 => simp
    intro v' w1 hown hgrow _
    have hown' : w1.ownsRow W.heap.size 105 2 v' s.l.length (encP s.l) := by simpa using hown
    have HO := Lib.hid hown'
    have HF2 : Hid (Fr (fun k => k = W.heap.size) W w1) := (Fr.alloc _ _ _).trans (Fr.grown hgrow (fun k e => by cases e; rfl))
    clear hown hgrow hown'
    go_wp2
    go_ret
    exact ⟨_, rfl, HO.out, HF2.out.mono (fun k hk e => by omega)⟩
end Go.Proofs.Ytibmmonboeifhaa
