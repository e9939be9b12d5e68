/- Effective, Reason. -/
import Derived.Test.YteikipiigbjgbaaGn
import Derived.Test.YteikipiigbjgbaaGh
import Derived.Test.YteikipiigbjgbaaGr
import Derived.Test.YteikipiigbjgbaaGs
import Derived.Deep.RegionHeld3
namespace Go.Proofs.Yteikipiigbjgbaa
open Go.RowKit
set_option linter.unusedVariables false

theorem chkE_ok {n : Nat} : ∀ (raw ks : Raw), chkE n raw ks = 0 → ∃ es : Es, raw = emb es ∧ Val n es
  | [], _, _ => ⟨[], rfl, (fun _ h => nomatch h)⟩
  | e :: r, ks, h => by
    rw [chkE] at h
    by_cases hj : joinsB n e = true
    · rw [if_pos hj] at h
      by_cases hm : e ∈ ks
      · rw [if_pos hm] at h; omega
      · rw [if_neg hm] at h
        obtain ⟨es, h1, h2⟩ := chkE_ok r _ h
        obtain ⟨x, y⟩ := e
        simp only [joinsB, Bool.and_eq_true, thr_iff] at hj
        refine ⟨(x.toNat, y.toNat) :: es, ?_, fun f hf => ?_⟩
        · rw [h1]
          simp only [emb, List.map_cons]
          rw [Int.toNat_of_nonneg hj.1.1, Int.toNat_of_nonneg hj.2.1]
        · rcases List.mem_cons.1 hf with rfl | hf
          · exact ⟨by have := hj.1; show x.toNat < n; omega, by have := hj.2; show y.toNat < n; omega⟩
          · exact h2 f hf
    · rw [if_neg hj] at h; omega
/-- A graph that is in order. -/
structure GOk (bs : List Int) (raw : Raw) (es : Es) : Prop where
  emb : raw = emb es
  val : Val bs.length es
  n : bs.length ≤ 256
  m : es.length ≤ 2000
  pr : ∀ i, i < bs.length → 0 ≤ bs.getD i 0 ∧ bs.getD i 0 ≤ 255
theorem gok {bs : List Int} {raw : Raw} (h : chkG bs raw = 0) : ∃ es, GOk bs raw es := by
  unfold chkG at h
  by_cases h1 : 256 < bs.length ∨ 2000 < raw.length
  · rw [if_pos h1] at h; omega
  · rw [if_neg h1] at h
    by_cases h2 : bs.all isPri = true
    · rw [if_pos h2] at h
      obtain ⟨es, e1, e2⟩ := chkE_ok _ _ h
      refine ⟨es, e1, e2, by omega, by have := congrArg List.length e1; rw [emb_len] at this; omega, fun i hi => ?_⟩
      have := List.all_eq_true.1 h2 _ (List.getElem_mem hi)
      rw [isPri_iff] at this
      rw [List.getD_eq_getElem?_getD, List.getElem?_eq_getElem hi]; exact this
    · rw [if_neg h2] at h; omega
theorem effective_err {a c : Option Addr} {cap cap' : Nat} {bs : List Int} {raw : Raw} {W : World} (hb : NumsIn W a bs) (he : EdgesIn W c raw) (hne : chkG bs raw ≠ 0) :
    Calls Try.prog 12 #[.agg (graphV a bs.length cap c raw.length cap')] W fun e w' => e = .returned (.tuple #[.slice none 0 0, .int .i64 (chkG bs raw)]) ∧ Fr No W w' := by
  have HF0 : Hid (Fr No W (W.alloc (.cells (graphV a bs.length cap c raw.length cap') 40))) := Fr.alloc _ _ _
  have HR0 := Lib.hid (RowAt.new W 40 (graphV a bs.length cap c raw.length cap'))
  have HC := Lib.hid (check_any a c cap cap' bs raw _ (hb.no HF0.out) (he.no HF0.out))
  have g1 : (chkG bs raw != 0) = true := by simpa using hne
  generalize chkG bs raw = v at HC g1 ⊢
  generalize bs.length = n at HF0 HR0 HC ⊢
  generalize raw.length = m at HF0 HR0 HC ⊢
  clear hb he hne
  unfold graphV at HF0 HR0 HC ⊢
  go_enter Try.func12, Try.ntmps12
  go_upto_region 1 with (fail)
  generalize World.alloc W _ = W1 at HF0 HR0 HC ⊢
  generalize W.heap.size = x at HR0 ⊢
  go_wp2_with (first
    | (refine wpList_load_mid rfl 40 (Operand.tmp 1) rfl x 0 rfl [_, _] _ HR0.out.range Try.underlying40 rfl size_graph ?_)
    | (go_at_call 15; refine HC.out.mono ?_; rintro e w2 ⟨rfl, h2⟩))
  go_ret2
  exact ⟨rfl, HF0.out.trans h2⟩
set_option maxHeartbeats 1000000 in
theorem effective_ok {a c : Option Addr} {cap cap' : Nat} {bs : List Int} {raw : Raw} {es : Es} {W : World} (hb : NumsIn W a bs) (he : EdgesIn W c raw) (h0 : chkG bs raw = 0) (hg : GOk bs raw es) (hok : StableOk bs.length) (hcap : a = none → cap = 0) :
    Calls Try.prog 12 #[.agg (graphV a bs.length cap c raw.length cap')] W fun e w' => ∃ v p, e = .returned (.tuple #[v, .int .i64 0]) ∧ IsEff bs.length (fun i => bs.getD i 0) es p ∧ w'.ownsRow W.heap.size 3 1 v bs.length (encP bs.length p) ∧ Fr No W w' := by
  have HF0 : Hid (Fr No W (W.alloc (.cells (graphV a bs.length cap c raw.length cap') 40))) := Fr.alloc _ _ _
  have HR0 := Lib.hid (RowAt.new W 40 (graphV a bs.length cap c raw.length cap'))
  have HC := Lib.hid (check_any a c cap cap' bs raw _ (hb.no HF0.out) (he.no HF0.out))
  rw [h0] at HC
  have HB0 := Lib.hid (hb.no HF0.out)
  have HE0 := Lib.hid (he.no HF0.out)
  have HG := Lib.hid hg
  have HOK := Lib.hid hok
  have HCAP := Lib.hid hcap
  have hl : raw.length = es.length := by rw [hg.emb, emb_len]
  have HEF : Hid (∀ W1, NumsIn W1 a bs → EdgesIn W1 c raw → Calls Try.prog 29 #[.agg (graphV a bs.length cap c raw.length cap')] W1 fun e w' => ∃ v p, e = .returned v ∧ IsEff bs.length (fun i => bs.getD i 0) es p ∧ w'.ownsRow W1.heap.size 3 1 v bs.length (encP bs.length p) ∧ Fr No W1 w') := fun W1 h1 h2 => by
    rw [hl]
    rw [hg.emb] at h2
    exact effective_any a c cap cap' bs es W1 h1 h2 hg.n (by have := hg.m; omega) hg.val hg.pr hok hcap
  clear hb he h0 hg hok hcap hl
  unfold graphV at HF0 HR0 HC HB0 HE0 HEF ⊢
  go_enter Try.func12, Try.ntmps12
  go_upto_region 1 with (fail)
  generalize World.alloc W _ = W1 at HF0 HR0 HC HB0 HE0 ⊢
  have HXL : Hid (W.heap.size ≤ W1.heap.size) := HF0.out.size
  generalize hx : W.heap.size = x at HR0 ⊢
  have HX := Lib.hid hx
  clear hx
  go_wp2_with (first
    | (refine wpList_load_mid rfl 40 (Operand.tmp 1) rfl x 0 rfl [_, _] _ HR0.out.range Try.underlying40 rfl size_graph ?_)
    | (refine wpList_load_mid rfl 40 (Operand.tmp 1) rfl x 0 rfl [_, _] _ (HR0.out.fr H2.out id).range Try.underlying40 rfl size_graph ?_)
    | (go_at_call 15; refine HC.out.mono ?_; rintro e w2 ⟨rfl, h2⟩; have H2 := Lib.hid h2; clear h2)
    | (go_at_call 29; refine (HEF.out _ (HB0.out.no H2.out) (HE0.out.no H2.out)).mono ?_; rintro e w3 ⟨v, p, rfl, hp, ho, hf⟩; have HP := Lib.hid hp; have HO := Lib.hid ho; have H3 := Lib.hid hf; clear hp ho hf))
  go_ret2
  exact ⟨v, p, rfl, HP.out, own_base HO.out (by have := HXL.out; have := H2.out.size; omega), (HF0.out.trans H2.out).trans H3.out⟩
end Go.Proofs.Yteikipiigbjgbaa
