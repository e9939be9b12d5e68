/- ReadyPlays: the reference's Order. -/
import Derived.Test.YtbjpaemldnoinaaQg
import Derived.Test.YtbjpaemldnoinaaYy
namespace Go.Proofs.Ytbjpaemldnoinaa
open Go.RowKit
set_option linter.unusedVariables false

theorem info_int3 : (Try.prog.info? 3).map (fun i => (i.zero, i.size, i.bytes)) = some (some (.int .i64 0), 1, 8) := by kernel_rfl
def thrE (l : List EnR) : List Value := l.map fun x => Value.int .i64 x.t
theorem thrE_len (l : List EnR) : (thrE l).length = l.length := List.length_map ..
theorem thrE_snoc {l : List EnR} {i : Nat} {x : EnR} (hx : l[i]? = some x) : thrE (l.take (i + 1)) = thrE (l.take i) ++ [.int .i64 x.t] := by
  rw [List.take_add_one, hx]; simp [thrE]
set_option maxRecDepth 100000 in
set_option maxHeartbeats 1000000 in
theorem rorder_any {W : World} {lo R : Nat} {l : List EnR} (h : RQ lo R l W) (hl : l.length ≤ 256) : Calls Try.prog 14 #[.pointer (some ⟨R, 0, none⟩)] W fun e w' => ∃ v, e = .returned v ∧ w'.ownsRow W.heap.size 3 1 v l.length (thrE l) ∧ Below W.heap.size W w' := by
  obtain ⟨i0, hi0, hz0, hz1, hz2⟩ := info_parts info_int3
  have HI0 := Lib.hid hi0
  have HZ0 := Lib.hid hz0
  have HZ1 := Lib.hid hz1
  have HZ2 := Lib.hid hz2
  obtain ⟨v, h⟩ := h
  obtain ⟨a, c, hv⟩ := own_shape h.own
  subst hv
  have HQ := Lib.hid h
  have HL := Lib.hid hl
  have HS : Hid (∀ wr, Below W.heap.size W wr → RQA lo R (.slice a l.length c) l wr) := fun wr hb => by
    have hf : Fr (fun _ => False) W wr := ⟨hb.os, hb.tape, hb.output, hb.size, fun k hk _ => hb.block k hk⟩
    exact ⟨h.row.fr hf id, own_fr2 h.own hf (fun _ _ => id), h.ne, h.lo⟩
  clear h hi0 hz0 hz1 hz2
  go_enter Try.func14, Try.ntmps14
  go_wp2
  go_loopw [3, 4] (fun vo vi wr => ∃ i : Nat, vi = .int .i64 i ∧ Hid (i ≤ l.length ∧ wr.ownsRow W.heap.size 3 1 vo i (thrE (l.take i)) ∧ Below W.heap.size W wr)) (fun vo vi _ => l.length - (intOf vi).toNat)
  case atStart => exact ⟨0, rfl, Nat.zero_le _, ⟨rfl, .inl ⟨rfl, rfl⟩⟩, Below.refl _ _⟩
  case round =>
    obtain ⟨i, rfl, HR⟩ := hrel
    have hq := HS.out _ HR.out.2.2
    have c0 : wr.cell? ⟨R, 0, none⟩ = some (.slice a l.length c) := hq.row.cell 0
    by_cases hi : i < l.length
    · obtain ⟨g, cap, hv, _, hcap, hcells, _⟩ := own_someE hq.own (by omega)
      injection hv with hv
      subst hv
      obtain ⟨x, hx⟩ : ∃ x, l[i]? = some x := ⟨_, List.getElem?_eq_getElem hi⟩
      have d0 := (hcells i x hx).1
      have i0' : (0 : Int) ≤ i := by omega
      have i1 : (i : Int) < l.length := by omega
      have i2 : (i : Int) < 256 := by omega
      have HX := Lib.hid hx
      have HI := Lib.hid hi
      have HO : Hid ((wr.alloc (.cells #[.int .i64 x.t] 3)).ownsRow W.heap.size 3 1 u3 i (thrE (l.take i))) := HR.out.2.1.alloc _
      clear hi hx hcells hcap hl hq
      go_wp2_with (at_builtin; refine wpList_append_own _ rfl _ _ 34 rfl W.heap.size 3 i0 (.int .i64 0) 1 8 Try.underlying34 HI0.out HZ0.out HZ1.out HZ2.out rfl (by decide) _ _ _ rfl HO.out ⟨wr.heap.size, 0, none⟩ 1 1 [.int .i64 x.t] rfl rfl ?c1 ?c2 ?c3 ?c4 ?c5 ?_)
      case c2 => simp [Value.oneCell']
      case c3 => have := HL.out; unfold maxLen; omega
      case c4 => have := HL.out; omega
      case c5 => have := HR.out.2.2.size; omega
      intro v' w1 hown hgrow _
      have HO1 := Lib.hid hown
      have HB1 : Hid (Below W.heap.size W w1) := Fr.below (S := fun k => W.heap.size ≤ k) HR.out.2.2 ((Fr.alloc _ _ _).trans (Fr.grown hgrow (fun k e => (HO.out.lt k e).1))) HR.out.2.2.size (fun _ e => e)
      clear hown hgrow
      go_wp2
      go_roundw
      case rel => exact ⟨i + 1, rfl, HI.out, by rw [thrE_snoc HX.out]; exact HO1.out, HB1.out⟩
      case measure =>
        have := HI.out
        show l.length - (intOf (Value.int .i64 ((i : Int) + 1))).toNat < l.length - (intOf (Value.int .i64 (i : Int))).toNat
        simp only [intOf]
        omega
    · have hlt : ¬ (i : Int) < l.length := by omega
      have HI : Hid (i = l.length) := by have := HR.out.1; show _ = _; omega
      clear hi hq
      go_wp2
      go_ret
      have e := HR.out.2.1
      rw [HI.out, List.take_length] at e
      exact ⟨_, rfl, e, HR.out.2.2⟩
end Go.Proofs.Ytbjpaemldnoinaa
