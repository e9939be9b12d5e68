/- Check. -/
import Derived.Test.YteikipiigbjgbaaGd
namespace Go.Proofs.Yteikipiigbjgbaa
open Go.RowKit Go.WideMaps Go.ChangeMaps
set_option linter.unusedVariables false

/-- What Check answers. -/
def chkG (bs : List Int) (es : Raw) : Int := if 256 < bs.length ∨ 2000 < es.length then 18 else if bs.all isPri = true then chkE bs.length es [] else 34
theorem graphV_def (a c : Option Addr) (n cap m cap' : Nat) : #[Value.slice a n cap, Value.slice c m cap'] = graphV a n cap c m cap' := rfl
theorem all_take {bs : List Int} {i : Nat} (h : (bs.take i).all isPri = true) (hi : i < bs.length) : ((bs.take (i + 1)).all isPri) = isPri (bs.getD i 0) := by
  rw [List.take_add_one, List.all_append, h, List.getElem?_eq_getElem hi, List.getD_eq_getElem?_getD, List.getElem?_eq_getElem hi]
  simp
theorem all_false {bs : List Int} {i : Nat} (hi : i < bs.length) (h : isPri (bs.getD i 0) = false) : bs.all isPri = false := by
  rw [List.getD_eq_getElem?_getD, List.getElem?_eq_getElem hi] at h
  rw [List.all_eq_false]
  exact ⟨_, List.getElem_mem hi, by simpa using h⟩
set_option maxRecDepth 100000 in
set_option maxHeartbeats 2000000 in
theorem check_any (a c : Option Addr) (cap cap' : Nat) (bs : List Int) (es : Raw) (W : World) (hb : NumsIn W a bs) (he : EdgesIn W c es) :
    Calls Try.prog 15 #[.agg (graphV a bs.length cap c es.length cap')] W fun e w' => e = .returned (.int .i64 (chkG bs es)) ∧ Fr No W w' := by
  have HF : Hid (Fr No W (W.alloc (.cells (graphV a bs.length cap c es.length cap') 40))) := Fr.alloc _ _ _
  by_cases h1 : 256 < bs.length
  · have HV : Hid (chkG bs es = 18) := by show _ = _; rw [chkG, if_pos (.inl h1)]
    rw [HV.out]
    have l1 : (256 : Int) < bs.length := by omega
    generalize bs.length = n at HF l1 ⊢
    clear hb he h1 HV
    unfold graphV at HF ⊢
    go_enter Try.func15, Try.ntmps15
    go_wp2
    go_ret
    exact ⟨rfl, HF.out⟩
  have l1 : (bs.length : Int) ≤ 256 := by omega
  by_cases h2 : 2000 < es.length
  · have HV : Hid (chkG bs es = 18) := by show _ = _; rw [chkG, if_pos (.inr h2)]
    rw [HV.out]
    have l2 : (2000 : Int) < es.length := by omega
    generalize bs.length = n at HF l1 ⊢
    generalize es.length = m at HF l2 ⊢
    clear hb he h1 h2 HV
    unfold graphV at HF ⊢
    go_enter Try.func15, Try.ntmps15
    go_wp2
    go_ret
    exact ⟨rfl, HF.out⟩
  have l2 : (es.length : Int) ≤ 2000 := by omega
  have HV : Hid (chkG bs es = if bs.all isPri = true then chkE bs.length es [] else 34) := by show _ = _; rw [chkG, if_neg (by omega)]
  generalize chkG bs es = v at HV ⊢
  have HN : Hid (bs.length ≤ 256) := by show _ ≤ _; omega
  have HM : Hid (es.length ≤ 65536) := by show _ ≤ _; omega
  have HR := Lib.hid (RowAt.new W 40 (graphV a bs.length cap c es.length cap'))
  have HB := Lib.hid (hb.no HF.out)
  have HE := Lib.hid (he.no HF.out)
  clear hb he h1 h2
  unfold graphV at HF HR HB HE ⊢
  go_enter Try.func15, Try.ntmps15
  go_upto_region 1 with (fail)
  generalize World.alloc W _ = W1 at HF HR HB HE ⊢
  generalize W.heap.size = x at HR ⊢
  have c0 : W1.cell? ⟨x, 0, none⟩ = some (.slice a bs.length cap) := HR.out.cell 0
  have c1 : W1.cell? ⟨x, 1, none⟩ = some (.slice c es.length cap') := HR.out.cell 1
  go_wp2
  clear c0 c1
  go_loop [18] (fun vi => ∃ i : Nat, vi = .int .i64 i ∧ Hid (i ≤ bs.length ∧ (bs.take i).all isPri = true)) (fun vi => bs.length - (intOf vi).toNat)
  case atStart => exact ⟨0, rfl, Nat.zero_le _, rfl⟩
  case round =>
    obtain ⟨i, rfl, HI⟩ := hrel
    have i0 : (0 : Int) ≤ i := by omega
    by_cases hi : i < bs.length
    · obtain ⟨b, off, rfl, hb, e0⟩ := HB.out.get hi
      have HT := Lib.hid (all_take HI.out.2 hi)
      have HA : Hid (isPri (bs.getD i 0) = false → bs.all isPri = false) := all_false hi
      have i1 : (i : Int) < bs.length := by omega
      have HI1 := Lib.hid hi
      have HC := Lib.hid (ispri_any (bs.getD i 0))
      have HMS : Hid (bs.length - (intOf (Value.int IntKind.i64 ((i : Int) + 1))).toNat < bs.length - (intOf (Value.int IntKind.i64 (i : Int))).toNat) := by
        show _ < _
        simp only [intOf]
        omega
      clear hi hb
      generalize bs.getD i 0 = y at HT HA HC e0
      cases hp : isPri y
      · rw [hp] at HC
        have HF2 := Lib.hid (HA.out hp)
        clear hp HA HT
        go_wp2_with (go_at_call 24; refine (HC.out _).mono ?_; rintro e w2 ⟨rfl, rfl⟩)
        go_ret
        exact ⟨by rw [HV.out, HF2.out] <;> rfl, HF.out⟩
      · rw [hp] at HC HT
        clear hp HA
        go_wp2_with (go_at_call 24; refine (HC.out _).mono ?_; rintro e w2 ⟨rfl, rfl⟩)
        go_round
        case rel => exact ⟨i + 1, by push_cast; rfl, HI1.out, HT.out⟩
        case measure => exact HMS.out
    · have hil : i = bs.length := by have := HI.out.1; omega
      have hlt : ¬ (i : Int) < bs.length := by omega
      have HIL := Lib.hid hil
      have HC := Lib.hid (checkedges_any a c bs.length cap cap' es W1 HN.out HE.out HM.out)
      unfold graphV at HC
      clear hi hil
      go_wp2_with (first
        | (refine wpList_load_mid rfl 40 (Operand.tmp 1) rfl x 0 rfl [_, _] _ HR.out.range Try.underlying40 rfl size_graph ?_)
        | (go_at_call 30; refine HC.out.mono ?_; rintro e w2 ⟨rfl, h2⟩))
      go_ret
      have := HI.out.2
      rw [HIL.out, List.take_length] at this
      exact ⟨by rw [HV.out, if_pos this] <;> rfl, HF.out.trans h2⟩
end Go.Proofs.Yteikipiigbjgbaa
