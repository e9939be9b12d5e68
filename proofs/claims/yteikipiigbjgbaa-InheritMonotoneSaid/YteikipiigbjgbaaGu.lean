/- Reason. -/
import Derived.Test.YteikipiigbjgbaaGt
namespace Go.Proofs.Yteikipiigbjgbaa
open Go.RowKit
set_option linter.unusedVariables false

set_option maxRecDepth 100000 in
set_option maxHeartbeats 4000000 in
theorem reason_ok {a c : Option Addr} {cap cap' : Nat} {bs : List Int} {raw : Raw} {es : Es} {W : World} (hb : NumsIn W a bs) (he : EdgesIn W c raw) (h0 : chkG bs raw = 0) (hg : GOk bs raw es) (t : Nat) (ht : t < bs.length) :
    Calls Try.prog 17 #[.agg (graphV a bs.length cap c raw.length cap'), .int .i64 (t : Int)] W fun e w' => ∃ v, e = .returned (.tuple #[v, .int .i64 0]) ∧ w'.ownsRow W.heap.size 3 1 v (reason bs.length (fun i => bs.getD i 0) es t).length (encN (reason bs.length (fun i => bs.getD i 0) es t)) ∧ Fr No W w' := by
  have HF0 : Hid (Fr No W (W.alloc (.cells (graphV a bs.length cap c raw.length cap') 40))) := Fr.alloc _ _ _
  have HR0 := Lib.hid (RowAt.new W 40 (graphV a bs.length cap c raw.length cap'))
  have HC := Lib.hid (check_any a c cap cap' bs raw _ (hb.no HF0.out) (he.no HF0.out))
  rw [h0] at HC
  have HB0 := Lib.hid (hb.no HF0.out)
  have HE0 := Lib.hid (he.no HF0.out)
  have HG := Lib.hid hg
  have HT := Lib.hid ht
  have hl : raw.length = es.length := by rw [hg.emb, emb_len]
  have hmm : es.length ≤ 65536 := by have := hg.m; omega
  have HHAS : Hid (∀ W1, Calls Try.prog 23 #[.agg (graphV a bs.length cap c raw.length cap'), .int .i64 (t : Int)] W1 fun e w' => e = .returned (.bool true) ∧ Fr No W1 w') := fun W1 => by
    have := has_any a c bs.length cap raw.length cap' t W1
    rw [show thr bs.length (t : Int) = true from by rw [thr_iff]; omega] at this; exact this
  have HWT : Hid (∀ W1, EdgesIn W1 c raw → Calls Try.prog 32 #[.agg (graphV a bs.length cap c raw.length cap')] W1 fun e w' => ∃ g, e = .returned (.slice (some ⟨g, 0, none⟩) bs.length bs.length) ∧ ListsIn w' W1.heap.size w'.heap.size g bs.length (ins es) ∧ Fr No W1 w') := fun W1 h => by
    rw [hl]; rw [hg.emb] at h
    exact waiters_any a c bs.length cap cap' es W1 hg.n hg.val h hmm
  have HHD : Hid (∀ W1, EdgesIn W1 c raw → Calls Try.prog 31 #[.agg (graphV a bs.length cap c raw.length cap')] W1 fun e w' => ∃ g, e = .returned (.slice (some ⟨g, 0, none⟩) bs.length bs.length) ∧ ListsIn w' W1.heap.size w'.heap.size g bs.length (outs es) ∧ Fr No W1 w') := fun W1 h => by
    rw [hl]; rw [hg.emb] at h
    exact holders_any a c bs.length cap cap' es W1 hg.n hg.val h hmm
  have HDI : Hid (∀ W1 lo hi g, ListsIn W1 lo hi g bs.length (ins es) → Calls Try.prog 34 #[.int .i64 (t : Int), .slice (some ⟨g, 0, none⟩) bs.length bs.length] W1 fun e w' => ∃ gd, e = .returned (.slice (some ⟨gd, 0, none⟩) bs.length bs.length) ∧ RowAt w' gd 3 (encPA bs.length (dist bs.length es t)) ∧ W1.heap.size ≤ gd ∧ Fr No W1 w') := fun W1 lo hi g h => dist_any h hg.val hg.n hmm t ht
  have hBF := dist_bf hg.val ht
  obtain ⟨s1, s2⟩ := srcAt_holds (fun i => bs.getD i 0) (dist bs.length es t) bs.length
  have hne : srcAt (fun i => bs.getD i 0) (dist bs.length es t) bs.length ≠ -1 := fun e => by have := s1 e t ht; rw [hBF.t0] at this; omega
  obtain ⟨k1, k2, k3, _⟩ := s2 hne
  obtain ⟨s, hs⟩ : ∃ s : Nat, srcAt (fun i => bs.getD i 0) (dist bs.length es t) bs.length = s := ⟨_, (Int.toNat_of_nonneg k1).symm⟩
  rw [hs, Int.toNat_natCast] at k3
  have HSR : Hid (∀ W1 gd, NumsIn W1 a bs → RowAt W1 gd 3 (encPA bs.length (dist bs.length es t)) → Calls Try.prog 36 #[.agg (graphV a bs.length cap c raw.length cap'), .slice (some ⟨gd, 0, none⟩) bs.length bs.length] W1 fun e w' => e = .returned (.int .i64 (s : Int)) ∧ Fr No W1 w') := fun W1 gd h1 h2 => by
    have := source_any (m := raw.length) (cap := cap) (cap' := cap') (c := c) h1 h2 hg.n
    rw [hs] at this; exact this
  have HFO : Hid (∀ W1 lo hi g gd, ListsIn W1 lo hi g bs.length (outs es) → RowAt W1 gd 3 (encPA bs.length (dist bs.length es t)) → Calls Try.prog 35 #[.int .i64 (s : Int), .slice (some ⟨gd, 0, none⟩) bs.length bs.length, .slice (some ⟨g, 0, none⟩) bs.length bs.length] W1 fun e w' => ∃ v, e = .returned v ∧ w'.ownsRow W1.heap.size 3 1 v (chain (dist bs.length es t) (outs es) s).length (encN (chain (dist bs.length es t) (outs es) s)) ∧ Fr No W1 w') := fun W1 lo hi g gd h1 h2 => follow_any h1 h2 hBF (fun x => dist_ub hg.val ht x) hg.val hg.n hmm s k3
  have HRE : Hid (reason bs.length (fun i => bs.getD i 0) es t = chain (dist bs.length es t) (outs es) s) := by show _ = _; unfold reason; rw [hs, Int.toNat_natCast]
  generalize reason bs.length (fun i => bs.getD i 0) es t = R at HRE ⊢
  generalize dist bs.length es t = D at HDI HSR HFO HRE
  clear hb he h0 hg ht hl hmm hBF s1 s2 hne k1 k2 k3 hs
  unfold graphV at HF0 HR0 HC HB0 HE0 HHAS HWT HHD HSR ⊢
  go_enter Try.func17, Try.ntmps17
  go_upto_region 1 with (fail)
  generalize World.alloc W _ = W1 at HF0 HR0 HC HB0 HE0 ⊢
  have HXL : Hid (W.heap.size ≤ W1.heap.size) := HF0.out.size
  generalize hx : W.heap.size = x at HR0 ⊢
  have HX := Lib.hid hx
  clear hx
  go_upto_region 7 with (first
    | (refine wpList_load_mid rfl 40 (Operand.tmp 2) rfl x 0 rfl [_, _] _ HR0.out.range Try.underlying40 rfl size_graph ?_)
    | (refine wpList_load_mid rfl 40 (Operand.tmp 2) rfl x 0 rfl [_, _] _ (HR0.out.fr H2.out id).range Try.underlying40 rfl size_graph ?_)
    | (refine wpList_load_mid rfl 40 (Operand.tmp 2) rfl x 0 rfl [_, _] _ (HR0.out.fr H3.out id).range Try.underlying40 rfl size_graph ?_)
    | (go_at_call 15; refine HC.out.mono ?_; rintro e w2 ⟨rfl, h2⟩; have H2 := Lib.hid h2; clear h2)
    | (go_at_call 23; refine (HHAS.out _).mono ?_; rintro e w3 ⟨rfl, h3⟩; have H3 := Lib.hid (H2.out.trans h3); clear h3)
    | (go_at_call 32; refine (HWT.out _ (HE0.out.no H3.out)).mono ?_; rintro e w4 ⟨gw, rfl, hl4, h4⟩; have HL4 := Lib.hid hl4; have H4 := Lib.hid (H3.out.trans h4); clear h4 hl4)
    | (go_at_call 34; refine (HDI.out _ _ _ _ HL4.out).mono ?_; rintro e w5 ⟨gd, rfl, hr5, _, h5⟩; have HD5 := Lib.hid hr5; have H5 := Lib.hid (H4.out.trans h5); clear h5 hr5))
  have HR5 := Lib.hid (HR0.out.fr H5.out id)
  have c0 : w5.cell? ⟨x, 0, none⟩ = some (.slice a bs.length cap) := HR5.out.cell 0
  have c1 : w5.cell? ⟨x, 1, none⟩ = some (.slice c raw.length cap') := HR5.out.cell 1
  have HKC : Hid (∀ w, Fr No w5 w → w.cell? ⟨x, 0, none⟩ = some (.slice a bs.length cap) ∧ w.cell? ⟨x, 1, none⟩ = some (.slice c raw.length cap')) := fun w f => ⟨(HR5.out.fr f id).cell 0, (HR5.out.fr f id).cell 1⟩
  have HKB : Hid (∀ w, Fr No w5 w → NumsIn w a bs) := fun w f => HB0.out.no (H5.out.trans f)
  have HKE : Hid (∀ w, Fr No w5 w → EdgesIn w c raw) := fun w f => HE0.out.no (H5.out.trans f)
  have HKD : Hid (∀ w, Fr No w5 w → RowAt w gd 3 (encPA bs.length D)) := fun w f => HD5.out.fr f id
  have FD : Hid (Fr No w5 w5.drew) := Fr.drew _ _
  clear HC HHAS HWT HDI HR0 HB0 HE0
  go_region_held3 (fun w' => w'.cell? ⟨x, 0, none⟩ = some (.slice a bs.length cap) ∧ w'.cell? ⟨x, 1, none⟩ = some (.slice c raw.length cap'))
    (first | (with_reducible exact HKC.out _ F8.out) | (with_reducible exact HKC.out _ FAB.out) | (with_reducible exact HKC.out _ FBA.out) | (with_reducible exact HKC.out _ FA.out) | (with_reducible exact HKC.out _ FB.out) | exact ⟨c0, c1⟩ | go_keep)
    (first
      | (go_at_call 36; refine (HSR.out _ gd (HKB.out _ FB.out) (HKD.out _ FB.out)).mono ?_; rintro e w6 ⟨rfl, f6⟩; have FBA := Lib.hid (FB.out.trans f6); have HLO := Lib.hid (HLH.out.fr f6 (fun _ _ _ => id)); clear f6)
      | (go_at_call 36; refine (HSR.out _ gd (HKB.out _ FD.out) (HKD.out _ FD.out)).mono ?_; rintro e w6 ⟨rfl, f6⟩; have FA := Lib.hid (FD.out.trans f6); clear f6)
      | (go_at_call 31; refine (HHD.out _ (HKE.out _ FA.out)).mono ?_; rintro e w7 ⟨gh, rfl, hl7, f7⟩; have FAB := Lib.hid (FA.out.trans f7); have HLO := Lib.hid hl7; clear f7 hl7)
      | (go_at_call 31; refine (HHD.out _ (HKE.out _ FD.out)).mono ?_; rintro e w7 ⟨gh, rfl, hl7, f7⟩; have FB := Lib.hid (FD.out.trans f7); have HLH := Lib.hid hl7; clear f7 hl7)
      | (go_at_call 35; refine (HFO.out _ _ _ _ _ HLO.out (HKD.out _ FAB.out)).mono ?_; rintro e w8 ⟨v, rfl, ho, f8⟩; obtain ⟨ov, oc, hv⟩ := own_shape ho; subst hv; have HO8 := Lib.hid ho; have F8 := Lib.hid (FAB.out.trans f8); have HSZ := Lib.hid FAB.out.size; clear ho f8)
      | (go_at_call 35; refine (HFO.out _ _ _ _ _ HLO.out (HKD.out _ FBA.out)).mono ?_; rintro e w8 ⟨v, rfl, ho, f8⟩; obtain ⟨ov, oc, hv⟩ := own_shape ho; subst hv; have HO8 := Lib.hid ho; have F8 := Lib.hid (FBA.out.trans f8); have HSZ := Lib.hid FBA.out.size; clear ho f8))
  all_goals
    go_wp2
    go_ret2
    refine ⟨_, rfl, ?_, (HF0.out.trans H5.out).trans F8.out⟩
    rw [HRE.out]
    exact own_base HO8.out (by have := HSZ.out; have := (HF0.out.trans H5.out).size; omega)
end Go.Proofs.Yteikipiigbjgbaa
