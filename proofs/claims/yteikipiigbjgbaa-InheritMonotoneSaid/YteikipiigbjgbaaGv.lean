/- Cycle. -/
import Derived.Test.YteikipiigbjgbaaGt
namespace Go.Proofs.Yteikipiigbjgbaa
open Go.RowKit
set_option linter.unusedVariables false

def cycE (R : List Nat) : Int := if R.length = 0 then 22 else 0
theorem foll_len (D : Nat → Int) (hs : Nat → List Nat) : ∀ f y, (foll D hs f y).length ≤ f + 1
  | 0, y => by simp [foll]
  | f + 1, y => by
    rw [foll]
    split
    · rw [List.length_cons]; have := foll_len D hs f (near D (hs y)).toNat; omega
    · simp
theorem cyc_len {n : Nat} {es : Es} (hv : Val n es) {t : Nat} (ht : t < n) : (cyc n es t).length ≤ n + 2 := by
  unfold cyc
  split
  · simp
  · rw [List.length_cons]
    have := foll_len (dist n es t) (outs es) ((dist n es t) (near (dist n es t) (outs es t)).toNat).toNat (near (dist n es t) (outs es t)).toNat
    have h2 := dist_ub hv ht (near (dist n es t) (outs es t)).toNat
    unfold chain
    omega
set_option maxRecDepth 100000 in
set_option maxHeartbeats 4000000 in
theorem cycle_ok {a c : Option Addr} {cap cap' : Nat} {bs : List Int} {raw : Raw} {es : Es} {W : World} (hb : NumsIn W a bs) (he : EdgesIn W c raw) (h0 : chkG bs raw = 0) (hg : GOk bs raw es) :
    Calls Try.prog 16 #[.agg (graphV a bs.length cap c raw.length cap')] W fun e w' => ∃ v, e = .returned (.tuple #[v, .int .i64 (cycE (least bs.length es bs.length))]) ∧ w'.ownsRow W.heap.size 3 1 v (least bs.length es bs.length).length (encN (least bs.length es bs.length)) ∧ Fr No W w' := by
  have HF0 : Hid (Fr No W (W.alloc (.cells (graphV a bs.length cap c raw.length cap') 40))) := Fr.alloc _ _ _
  have HR0 := Lib.hid (RowAt.new W 40 (graphV a bs.length cap c raw.length cap'))
  have HC := Lib.hid (check_any a c cap cap' bs raw _ (hb.no HF0.out) (he.no HF0.out))
  rw [h0] at HC
  have HE0 := Lib.hid (he.no HF0.out)
  have hl : raw.length = es.length := by rw [hg.emb, emb_len]
  have hmm : es.length ≤ 65536 := by have := hg.m; omega
  have n0 : (0 : Int) ≤ bs.length := by omega
  have n1 : (bs.length : Int) ≤ 256 := by have := hg.n; omega
  have HN := Lib.hid hg.n
  have HWT : Hid (∀ W1, EdgesIn W1 c raw → Calls Try.prog 32 #[.agg (graphV a bs.length cap c raw.length cap')] W1 fun e w' => ∃ g, e = .returned (.slice (some ⟨g, 0, none⟩) bs.length bs.length) ∧ ListsIn w' W1.heap.size w'.heap.size g bs.length (ins es) ∧ Fr No W1 w') := fun W1 h => by
    rw [hl]; rw [hg.emb] at h
    exact waiters_any a c bs.length cap cap' es W1 hg.n hg.val h hmm
  have HHD : Hid (∀ W1, EdgesIn W1 c raw → Calls Try.prog 31 #[.agg (graphV a bs.length cap c raw.length cap')] W1 fun e w' => ∃ g, e = .returned (.slice (some ⟨g, 0, none⟩) bs.length bs.length) ∧ ListsIn w' W1.heap.size w'.heap.size g bs.length (outs es) ∧ Fr No W1 w') := fun W1 h => by
    rw [hl]; rw [hg.emb] at h
    exact holders_any a c bs.length cap cap' es W1 hg.n hg.val h hmm
  have HCO : Hid (∀ W1 lo hi gh lo2 hi2 gw t, ListsIn W1 lo hi gh bs.length (outs es) → ListsIn W1 lo2 hi2 gw bs.length (ins es) → t < bs.length → Calls Try.prog 33 #[.int .i64 (t : Int), .slice (some ⟨gh, 0, none⟩) bs.length bs.length, .slice (some ⟨gw, 0, none⟩) bs.length bs.length] W1 fun e w' => ∃ v, e = .returned v ∧ w'.ownsRow W1.heap.size 3 1 v (cyc bs.length es t).length (encN (cyc bs.length es t)) ∧ Fr No W1 w') := fun W1 lo hi gh lo2 hi2 gw t h1 h2 ht => cycleof_any h1 h2 hg.val hg.n hmm t ht
  have HCL : Hid (∀ t, t < bs.length → (cyc bs.length es t).length ≤ 258) := fun t ht => by have := cyc_len hg.val ht; have := hg.n; omega
  have HLL : Hid (∀ k, k ≤ bs.length → (least bs.length es k).length ≤ 258) := fun k => by
    induction k with
    | zero => intro _; simp [least]
    | succ k ih =>
      intro hk
      rw [least]
      split
      · exact HCL.out k (by omega)
      · exact ih (by omega)
  clear hb he h0 hg hl hmm
  unfold graphV at HF0 HR0 HC HE0 HWT HHD ⊢
  go_enter Try.func16, Try.ntmps16
  go_upto_region 1 with (fail)
  generalize World.alloc W _ = W1 at HF0 HR0 HC HE0 ⊢
  generalize hx : W.heap.size = x at HR0 ⊢
  have HX := Lib.hid hx
  clear hx
  go_upto_region 4 with (first
    | (refine wpList_load_mid rfl 40 (Operand.tmp 1) rfl x 0 rfl [_, _] _ HR0.out.range Try.underlying40 rfl size_graph ?_)
    | (go_at_call 15; refine HC.out.mono ?_; rintro e w5 ⟨rfl, h2⟩; have H5 := Lib.hid h2; clear h2))
  have HR5 := Lib.hid (HR0.out.fr H5.out id)
  have c0 : w5.cell? ⟨x, 0, none⟩ = some (.slice a bs.length cap) := HR5.out.cell 0
  have c1 : w5.cell? ⟨x, 1, none⟩ = some (.slice c raw.length cap') := HR5.out.cell 1
  have HKC : Hid (∀ w, Fr No w5 w → w.cell? ⟨x, 0, none⟩ = some (.slice a bs.length cap) ∧ w.cell? ⟨x, 1, none⟩ = some (.slice c raw.length cap')) := fun w f => ⟨(HR5.out.fr f id).cell 0, (HR5.out.fr f id).cell 1⟩
  have HKE : Hid (∀ w, Fr No w5 w → EdgesIn w c raw) := fun w f => HE0.out.no (H5.out.trans f)
  have FD : Hid (Fr No w5 w5.drew) := Fr.drew _ _
  clear HC HR0 HE0
  go_region_held3 (fun w' => w'.cell? ⟨x, 0, none⟩ = some (.slice a bs.length cap) ∧ w'.cell? ⟨x, 1, none⟩ = some (.slice c raw.length cap'))
    (first | (with_reducible exact HKC.out _ F8.out) | (with_reducible exact HKC.out _ FA.out) | (with_reducible exact HKC.out _ FB.out) | exact ⟨c0, c1⟩ | go_keep)
    (first
      | (go_at_call 31; refine (HHD.out _ (HKE.out _ FB.out)).mono ?_; rintro e w7 ⟨gh, rfl, hl7, f7⟩; have F8 := Lib.hid (FB.out.trans f7); have HLO := Lib.hid hl7; have HLI := Lib.hid (HLB.out.fr f7 (fun _ _ _ => id)); clear f7 hl7)
      | (go_at_call 31; refine (HHD.out _ (HKE.out _ FD.out)).mono ?_; rintro e w7 ⟨gh, rfl, hl7, f7⟩; have FA := Lib.hid (FD.out.trans f7); have HLA := Lib.hid hl7; clear f7 hl7)
      | (go_at_call 32; refine (HWT.out _ (HKE.out _ FA.out)).mono ?_; rintro e w7 ⟨gw, rfl, hl7, f7⟩; have F8 := Lib.hid (FA.out.trans f7); have HLI := Lib.hid hl7; have HLO := Lib.hid (HLA.out.fr f7 (fun _ _ _ => id)); clear f7 hl7)
      | (go_at_call 32; refine (HWT.out _ (HKE.out _ FD.out)).mono ?_; rintro e w7 ⟨gw, rfl, hl7, f7⟩; have FB := Lib.hid (FD.out.trans f7); have HLB := Lib.hid hl7; clear f7 hl7))
  all_goals
    have HF7 := Lib.hid ((HF0.out.trans H5.out).trans F8.out)
    obtain ⟨q0, q1⟩ := HKC.out _ F8.out
    generalize hw : w7 = W7 at *
    clear c0 c1 HKC HKE HWT HHD FD F8
    go_wp2
    go_loopw [7, 22] (fun v7 vi wr => ∃ (i : Nat) (av : Option Addr) (m cv : Nat), vi = .int .i64 i ∧ v7 = .slice av m cv ∧ Hid (i ≤ bs.length ∧ m = (least bs.length es i).length ∧ wr.ownsRow W.heap.size 3 1 (.slice av m cv) m (encN (least bs.length es i)) ∧ Fr No W7 wr)) (fun _ vi _ => bs.length - (intOf vi).toNat)
    case atStart => exact ⟨0, none, 0, 0, rfl, rfl, Nat.zero_le _, rfl, World.ownsRow_nil _ _ _ _, Fr.refl _ _⟩
    case round =>
      obtain ⟨i, av, m, cv, rfl, rfl, HI⟩ := hrel
      have i0 : (0 : Int) ≤ i := by omega
      have m0 : (0 : Int) ≤ m := by omega
      by_cases hi : i < bs.length
      · have i1 : (i : Int) < bs.length := by omega
        have HI1 := Lib.hid hi
        have HMS : Hid (bs.length - (intOf (Value.int IntKind.i64 ((i : Int) + 1))).toNat < bs.length - (intOf (Value.int IntKind.i64 (i : Int))).toNat) := by
          show _ < _
          simp only [intOf]
          omega
        have HCC := Lib.hid (HCO.out wr _ _ gh _ _ gw i (HLO.out.fr HI.out.2.2.2 (fun _ _ _ => id)) (HLI.out.fr HI.out.2.2.2 (fun _ _ _ => id)) hi)
        have HLS : Hid (least bs.length es (i + 1) = if 0 < (cyc bs.length es i).length ∧ ((least bs.length es i).length = 0 ∨ (cyc bs.length es i).length < (least bs.length es i).length) then cyc bs.length es i else least bs.length es i) := rfl
        generalize cyc bs.length es i = C at HCC HLS
        clear hi
        go_upto_region 10 with (go_at_call 33; refine HCC.out.mono ?_; rintro e w9 ⟨v, rfl, ho, f9⟩; obtain ⟨a9, c9, hv⟩ := own_shape ho; subst hv; have HO9 := Lib.hid ho; have F9 := Lib.hid f9; clear ho f9)
        have HLM := Lib.hid HI.out.2.1
        rw [← HLM.out] at HLS
        have HOM : Hid (w9.ownsRow W.heap.size 3 1 (.slice av m cv) m (encN (least bs.length es i))) := own_fr2 HI.out.2.2.1 F9.out (fun _ _ => id)
        have HOC : Hid (w9.ownsRow W.heap.size 3 1 (.slice a9 C.length c9) C.length (encN C)) := own_base HO9.out (by have := HF7.out.size; have := HI.out.2.2.2.size; omega)
        have FN := Lib.hid (HI.out.2.2.2.trans F9.out)
        clear HO9 HCC
        generalize hC : C.length = k at HLS HOC ⊢
        have HCL2 := Lib.hid hC
        clear hC
        have k0 : (0 : Int) ≤ k := by omega
        by_cases p1 : 0 < k
        · have g1 : decide (0 < k) = true := decide_eq_true p1
          by_cases p2 : m = 0
          · have HV : Hid (least bs.length es (i + 1) = C) := by show _ = _; rw [HLS.out, if_pos ⟨p1, .inl p2⟩]
            subst p2
            go_wp2
            go_roundw
            case rel => exact ⟨i + 1, a9, k, c9, by push_cast; rfl, rfl, HI1.out, by rw [HV.out]; exact HCL2.out.symm, by rw [HV.out]; exact HOC.out, FN.out⟩
            case measure => exact HMS.out
          · have g2 : (m == 0) = false := by simpa using p2
            have g2' : ((m : Int) == 0) = false := by rw [beq_eq_false_iff_ne]; omega
            by_cases p3 : k < m
            · have HV : Hid (least bs.length es (i + 1) = C) := by show _ = _; rw [HLS.out, if_pos ⟨p1, .inr p3⟩]
              have g3 : decide (k < m) = true := decide_eq_true p3
              clear p2
              go_wp2
              go_roundw
              case rel => exact ⟨i + 1, a9, k, c9, by push_cast; rfl, rfl, HI1.out, by rw [HV.out]; exact HCL2.out.symm, by rw [HV.out]; exact HOC.out, FN.out⟩
              case measure => exact HMS.out
            · have HV : Hid (least bs.length es (i + 1) = least bs.length es i) := by show _ = _; rw [HLS.out, if_neg (fun h => by rcases h.2 with h | h; exact p2 h; exact p3 h)]
              have g3 : decide (k < m) = false := decide_eq_false p3
              clear p2
              go_wp2
              go_roundw
              case rel => exact ⟨i + 1, av, m, cv, by push_cast; rfl, rfl, HI1.out, by rw [HV.out]; exact HLM.out, by rw [HV.out]; exact HOM.out, FN.out⟩
              case measure => exact HMS.out
        · have HV : Hid (least bs.length es (i + 1) = least bs.length es i) := by show _ = _; rw [HLS.out, if_neg (fun h => p1 h.1)]
          have g1 : decide (0 < k) = false := decide_eq_false p1
          clear p1
          go_wp2
          go_roundw
          case rel => exact ⟨i + 1, av, m, cv, by push_cast; rfl, rfl, HI1.out, by rw [HV.out]; exact HLM.out, by rw [HV.out]; exact HOM.out, FN.out⟩
          case measure => exact HMS.out
      · have hil : i = bs.length := by have := HI.out.1; omega
        have hlt : ¬ (i : Int) < bs.length := by omega
        have HML : Hid (m = (least bs.length es bs.length).length) := by show _ = _; rw [HI.out.2.1, hil]
        have HOW : Hid (wr.ownsRow W.heap.size 3 1 (.slice av m cv) m (encN (least bs.length es bs.length))) := by have := HI.out.2.2.1; rw [hil] at this; exact this
        clear hi hil
        by_cases p2 : m = 0
        · have HE : Hid (cycE (least bs.length es bs.length) = 22) := by show _ = _; rw [cycE, if_pos (by rw [← HML.out]; exact p2)]
          have HRR : Hid (least bs.length es bs.length = []) := List.length_eq_zero_iff.1 (by rw [← HML.out]; exact p2)
          subst p2
          go_wp2
          go_ret2
          exact ⟨_, by rw [HE.out] <;> rfl, by rw [HRR.out]; exact World.ownsRow_nil _ _ _ _, HF7.out.trans HI.out.2.2.2⟩
        · have HE : Hid (cycE (least bs.length es bs.length) = 0) := by show _ = _; rw [cycE, if_neg (by rw [← HML.out]; exact p2)]
          have g2 : (m == 0) = false := by simpa using p2
          have g2' : ((m : Int) == 0) = false := by rw [beq_eq_false_iff_ne]; omega
          clear p2
          go_wp2
          go_ret2
          exact ⟨_, by rw [HE.out] <;> rfl, by rw [← HML.out]; exact HOW.out, HF7.out.trans HI.out.2.2.2⟩
end Go.Proofs.Yteikipiigbjgbaa
