/- Interrupts: Number. -/
import Derived.Test.YtbnchmhhhildnaaXzg
namespace Go.Proofs.Ytbnchmhhhildnaa
open Go.RowKit Go.Maps
set_option linter.unusedVariables false

theorem size_in : (Try.prog.info? 66).map (·.size) = some 4 := by kernel_rfl
set_option maxRecDepth 100000 in
theorem numfn_any (c : Nat) (v : Value) (p : Bool) (s : Int) (x : Option Nat) (E : Nat) (W : World) (hc : W.cell? ⟨E, 0, none⟩ = some (.chan x)) :
    Calls Try.prog 44 #[.agg #[.chan (some c), v, .bool p, .int .i64 s], .pointer (some ⟨E, 0, none⟩)] W fun e w' => e = .returned (.bool (some c == x)) ∧ Fr No W w' := by
  have HF : Hid (Fr No W (W.alloc (.cells #[.chan (some c), v, .bool p, .int .i64 s] 66))) := Fr.alloc _ _ _
  have hE : E < W.heap.size := World.block_lt_of_cell? W _ hc
  have hx : ∀ o, (W.alloc o).cell? ⟨E, 0, none⟩ = some (.chan x) := fun o => (World.cell?_of_block (heap_alloc_old _ _ hE)).trans hc
  have hq := eq_chan (some c) x
  clear hc hE
  go_enter Try.func44, Try.ntmps44
  go_wp2
  go_ret
  exact ⟨rfl, HF.out⟩
theorem enters_num : ∀ args w, (callFunc 44 args).run Try.prog w = .ok (.enter 44 args) w := enters_of Try.func44 (by kernel_rfl) rfl
/-- The number of the line that a channel identifies. -/
def nmI (s : IS) (x : Option Nat) : Int := match s.ls.findIdx? (fun l => some l.ch == x) with | some j => j | none => -1
theorem LC.rng {W : World} {b : Nat} {ls : List IL} {vs : List Value} (h : LC W b ls vs) {i : Nat} {l : IL} {v : Value} (hl : ls[i]? = some l) (hv : vs[i]? = some v) : W.rangeAt b (i * 4) [.chan (some l.ch), v, .bool l.p, .int .i64 l.s] := fun j u hj => by
  obtain ⟨a, b, c, d⟩ := h.cells hl hv
  match j, hj with
  | 0, hj => cases hj; exact a
  | 1, hj => cases hj; exact b
  | 2, hj => cases hj; exact c
  | 3, hj => cases hj; exact d
set_option maxRecDepth 100000 in
set_option maxHeartbeats 4000000 in
theorem idxfn_ok {W : World} {O : Nat → Prop} {B : Nat} {y : LY} {s : IS} (h : CM W O B y s) (hn : s.ls.length ≤ 64) {x : Option Nat} {E : Nat} (hc : W.cell? ⟨E, 0, none⟩ = some (.chan x)) :
    Calls Try.prog 43 #[.slice (some ⟨y.b, 0, none⟩) s.ls.length y.cap, .func (.func 44) #[] #[.pointer (some ⟨E, 0, none⟩)]] W fun e w' => e = .returned (.int .i64 (nmI s x)) ∧ Fr No W w' := by
  have HH := Lib.hid h
  have HN := Lib.hid hn
  have HC : Hid (∀ w', Fr No W w' → w'.cell? ⟨E, 0, none⟩ = some (.chan x)) := fun w' f => (World.cell?_of_block (f.block E (World.block_lt_of_cell? W _ hc) id)).trans hc
  have n64 : (s.ls.length : Int) ≤ 64 := by omega
  clear h hc hn
  go_enter Try.func43, Try.ntmps43
  go_wp2
  go_loopw [5, 8] (fun v5 vi wr => ∃ i : Nat, vi = .int .i64 i ∧ Hid (i ≤ s.ls.length ∧ (∀ j l, j < i → s.ls[j]? = some l → (some l.ch == x) = false) ∧ Fr No W wr)) (fun _ vi _ => s.ls.length - (intOf vi).toNat)
  case atStart => exact ⟨0, rfl, Nat.zero_le _, fun j l hj => by omega, Fr.refl _ _⟩
  case round =>
    obtain ⟨i, rfl, HI⟩ := hrel
    have i0 : (0 : Int) ≤ i := by omega
    have i2 : (i : Int) ≤ 1000 := by have := HI.out.1; omega
    by_cases hi : i < s.ls.length
    · have i1 : (i : Int) < (s.ls.length : Nat) := by omega
      have hl := List.getElem?_eq_getElem hi
      generalize s.ls[i] = l at hl
      obtain ⟨a1, c1, hv⟩ := (HH.out.no HI.out.2.2).vs hl
      have HRA := Lib.hid ((HH.out.no HI.out.2.2).lines.rng hl hv)
      have HFN := Lib.hid (numfn_any l.ch (.slice a1 l.o.length c1) l.p l.s x E wr (HC.out _ HI.out.2.2))
      have HFW := Lib.hid HI.out.2.2
      have HPR := Lib.hid HI.out.2.1
      have HL := Lib.hid hl
      have HI1 : Hid (i + 1 ≤ s.ls.length) := hi
      have HMS : Hid (s.ls.length - (intOf (Value.int IntKind.i64 ((i : Int) + 1))).toNat < s.ls.length - (intOf (Value.int IntKind.i64 (i : Int))).toNat) := by
        show _ < _
        simp only [intOf]
        omega
      have eg := enters_num
      clear hi HI hl hv
      cases hb : (some l.ch == x)
      · rw [hb] at HFN
        have HB := Lib.hid hb
        clear hb
        go_wp2_with (first
          | ((with_reducible refine ld_gate ?_); refine wpList_load_mid rfl 66 (Operand.tmp 14) rfl y.b (i * 4) rfl [_, _, _, _] _ HRA.out Try.underlying66 rfl size_in ?_; go_frame)
          | (go_at_fn 44; refine HFN.out.mono ?_; rintro e w2 ⟨rfl, f2⟩; have F2 := Lib.hid (HFW.out.trans f2); clear f2))
        go_roundw
        case rel => exact ⟨i + 1, by push_cast; rfl, HI1.out, fun j m hj hm => by
          by_cases e : j = i
          · subst e; rw [HL.out] at hm; cases hm; exact HB.out
          · exact HPR.out j m (by omega) hm, F2.out⟩
        case measure => exact HMS.out
      · rw [hb] at HFN
        have HV : Hid (nmI s x = i) := by
          show _ = _
          have hlt := (List.getElem?_eq_some_iff.1 HL.out).1
          have : s.ls.findIdx? (fun l => some l.ch == x) = some i := by
            rw [List.findIdx?_eq_some_iff_getElem]
            refine ⟨hlt, ?_, fun j hj => ?_⟩
            · have := (List.getElem?_eq_some_iff.1 HL.out).2
              rw [this]; exact hb
            · rw [HPR.out j _ hj (List.getElem?_eq_getElem (by omega))]; simp
          unfold nmI
          rw [this]
        clear hb
        go_wp2_with (first
          | ((with_reducible refine ld_gate ?_); refine wpList_load_mid rfl 66 (Operand.tmp 14) rfl y.b (i * 4) rfl [_, _, _, _] _ HRA.out Try.underlying66 rfl size_in ?_; go_frame)
          | (go_at_fn 44; refine HFN.out.mono ?_; rintro e w2 ⟨rfl, f2⟩; have F2 := Lib.hid (HFW.out.trans f2); clear f2))
        go_ret
        exact ⟨by rw [HV.out]; rfl, F2.out⟩
    · have hile : i = s.ls.length := by have := HI.out.1; omega
      have i1 : ¬ (i : Int) < (s.ls.length : Nat) := by omega
      have HV : Hid (nmI s x = -1) := by
        show _ = _
        have : s.ls.findIdx? (fun l => some l.ch == x) = none := by
          rw [List.findIdx?_eq_none_iff]
          intro l hl
          obtain ⟨j, hj⟩ := List.getElem?_of_mem hl
          exact HI.out.2.1 j l (by have := (List.getElem?_eq_some_iff.1 hj).1; omega) hj
        unfold nmI
        rw [this]
      have HFW := Lib.hid HI.out.2.2
      clear hi HI
      subst hile
      go_wp2
      go_ret
      exact ⟨by rw [HV.out]; rfl, HFW.out⟩
set_option maxRecDepth 100000 in
theorem number_ok {W : World} {O : Nat → Prop} {B : Nat} {y : LY} {s : IS} (h : CM W O B y s) (hn : s.ls.length ≤ 64) (x : Option Nat) : Calls Try.prog 18 #[.pointer (some ⟨B, 0, none⟩), .chan x] W fun e w' => e = .returned (.int .i64 (nmI s x)) ∧ Fr No W w' := by
  have HF : Hid (Fr No W (W.alloc (.cells #[.chan x] 39))) := Fr.alloc _ _ _
  have h1 := h.no HF.out
  have HI := Lib.hid (idxfn_ok h1 hn (E := W.heap.size) ((RowAt.new W 39 #[.chan x]).cell 0))
  have HM := Lib.hid h1
  clear h h1 hn
  go_enter Try.func18, Try.ntmps18
  go_upto_region 1 with (fail)
  generalize World.alloc W _ = W1 at HF HI HM ⊢
  generalize W.heap.size = E at HI ⊢
  have c0 : W1.cell? ⟨B, 0, none⟩ = some (.slice (some ⟨y.b, 0, none⟩) s.ls.length y.cap) := HM.out.row.cell 0
  go_wp2_with (go_at_call 43; refine HI.out.mono ?_; rintro e w2 ⟨rfl, f2⟩; have F2 := Lib.hid (HF.out.trans f2); clear f2)
  go_ret
  exact ⟨rfl, F2.out⟩
theorem number_ce {W : World} {O : Nat → Prop} {N B : Nat} {s : IS} (h : CE O N W B s) (hk : IOk s) (x : Option Nat) : Calls Try.prog 18 #[.pointer (some ⟨B, 0, none⟩), .chan x] W fun e w' => e = .returned (.int .i64 (nmI s x)) ∧ Fr No W w' := by
  obtain ⟨y, O', h1, _⟩ := h
  exact number_ok h1 hk.n1 x
theorem line_ce {W : World} {O : Nat → Prop} {N B : Nat} {s : IS} (h : CE O N W B s) (hk : IOk s) (x : Int) : Calls Try.prog 17 #[.pointer (some ⟨B, 0, none⟩), .int .i64 x] W fun e w' => e = .returned (.chan (chI s x)) ∧ W = w' := by
  obtain ⟨y, O', h1, _⟩ := h
  exact line_ok h1 hk x
end Go.Proofs.Ytbnchmhhhildnaa
