/- effective. -/
import Derived.Test.YteikipiigbjgbaaGl
import Derived.Test.YteikipiigbjgbaaGm
import Derived.Test.YteikipiigbjgbaaGg
import Derived.Deep.LoopGhost
namespace Go.Proofs.Yteikipiigbjgbaa
open Go.RowKit
set_option linter.unusedVariables false

theorem Fr.ef {W A B : World} {hi bw : Nat} {pv : Value} (h : Fr (EF hi bw pv) W A) (k : Fr (EF hi bw pv) A B) : Fr (EF hi bw pv) W B := h.trans k
theorem ListsIn.get {W : World} {lo hi g n : Nat} {f : Nat → List Nat} (h : ListsIn W lo hi g n f) {i : Nat} (hi' : i < n) : ∃ a cap, W.cell? ⟨g, i, none⟩ = some (.slice a (f i).length cap) ∧ NumsIn W a (natI (f i)) ∧ ∀ b off, a = some ⟨b, off, none⟩ → lo ≤ b ∧ b < hi := h.at_ i hi'
set_option maxRecDepth 100000 in
set_option maxHeartbeats 8000000 in
theorem effective_any (a c : Option Addr) (cap cap' : Nat) (bs : List Int) (es : Es) (W : World) (hb : NumsIn W a bs) (he : EdgesIn W c (emb es)) (hn : bs.length ≤ 256) (hm : es.length ≤ 65536) (hv : Val bs.length es)
    (hpr : ∀ i, i < bs.length → 0 ≤ bs.getD i 0 ∧ bs.getD i 0 ≤ 255) (hok : StableOk bs.length) (hcap : a = none → cap = 0) :
    Calls Try.prog 29 #[.agg (graphV a bs.length cap c es.length cap')] W fun e w' => ∃ v p, e = .returned v ∧ IsEff bs.length (fun i => bs.getD i 0) es p ∧ w'.ownsRow W.heap.size 3 1 v bs.length (encP bs.length p) ∧ Fr No W w' := by
  have HF0 : Hid (Fr No W (W.alloc (.cells (graphV a bs.length cap c es.length cap') 40))) := Fr.alloc _ _ _
  have HR0 := Lib.hid (RowAt.new W 40 (graphV a bs.length cap c es.length cap'))
  have HB0 := Lib.hid (hb.no HF0.out)
  have HE0 := Lib.hid (he.no HF0.out)
  have HN := Lib.hid hn
  have HM := Lib.hid hm
  have HV := Lib.hid hv
  have HPR := Lib.hid hpr
  have HOK := Lib.hid hok
  have HCAP := Lib.hid hcap
  have n0 : (0 : Int) ≤ bs.length := by omega
  have n1 : (bs.length : Int) ≤ 256 := by omega
  have HGV : Hid (graphV a bs.length cap c es.length cap' = #[.slice a bs.length cap, .slice c es.length cap']) := rfl
  clear hb he hn hm hv hpr hok hcap
  unfold graphV
  rw [HGV.out] at HF0 HR0 HB0 HE0
  go_enter Try.func29, Try.ntmps29
  go_upto_region 1 with (fail)
  generalize World.alloc W _ = W1 at HF0 HR0 HB0 HE0 ⊢
  have HXL : Hid (W.heap.size < W1.heap.size) := HR0.out.lt
  generalize hx : W.heap.size = x at HR0 HXL ⊢
  have HX := Lib.hid hx
  clear hx
  have c0 : W1.cell? ⟨x, 0, none⟩ = some (.slice a bs.length cap) := HR0.out.cell 0
  have HC1 := Lib.hid (clone_any a cap bs W1 HB0.out (by have := HN.out; omega) HCAP.out)
  go_upto_region 2 with (go_at_call 18; refine HC1.out.mono ?_; rintro e W2 ⟨v, rfl, ho, hf⟩; obtain ⟨pa, pc, hpv⟩ := own_shape ho; subst hpv; have HO2 := Lib.hid ho; have HF2 := Lib.hid hf; clear ho hf)
  have HRP0 := Lib.hid (RowAt.new W2 22 #[.slice pa bs.length pc])
  have HF3 : Hid (Fr No W2 (W2.alloc (.cells #[.slice pa bs.length pc] 22))) := Fr.alloc _ _ _
  clear c0 HC1
  generalize World.alloc W2 _ = W3 at HRP0 HF3 ⊢
  generalize hbp : W2.heap.size = bp at HRP0 ⊢
  have HBP := Lib.hid hbp
  clear hbp
  have HR3 := Lib.hid ((HR0.out.fr HF2.out id).fr HF3.out id)
  have HE3 := Lib.hid ((HE0.out.no HF2.out).no HF3.out)
  have HC2 := Lib.hid (holders_any a c bs.length cap cap' es W3 HN.out HV.out HE3.out HM.out)
  unfold graphV at HC2
  go_upto_region 3 with (first
    | (refine wpList_load_mid rfl 40 (Operand.tmp 1) rfl x 0 rfl [_, _] _ HR3.out.range Try.underlying40 rfl size_graph ?_)
    | (go_at_call 31; refine HC2.out.mono ?_; rintro e W4 ⟨gh, rfl, hl, hf⟩; have HL4 := Lib.hid hl; have HF4 := Lib.hid hf; clear hl hf))
  clear HC2
  go_upto_region 5 with (fail)
  have HRW0 := Lib.hid (RowAt.new W4 22 #[.slice none 0 0])
  have HF5 : Hid (Fr No W4 (W4.alloc (.cells #[.slice none 0 0] 22))) := Fr.alloc _ _ _
  generalize World.alloc W4 _ = W5 at HRW0 HF5 ⊢
  generalize hbw : W4.heap.size = bw at HRW0 HL4 ⊢
  have HBW := Lib.hid hbw
  clear hbw
  have HR5 := Lib.hid ((HR3.out.fr HF4.out id).fr HF5.out id)
  have HB5 := Lib.hid ((((HB0.out.no HF2.out).no HF3.out).no HF4.out).no HF5.out)
  have HC3 := Lib.hid (urgent_any a c cap es.length cap' bs W5 HB5.out HN.out HOK.out)
  unfold graphV at HC3
  go_wp2_with (first
    | (refine wpList_load_mid rfl 40 (Operand.tmp 1) rfl x 0 rfl [_, _] _ HR5.out.range Try.underlying40 rfl size_graph ?_)
    | (go_at_call 46; refine HC3.out.mono ?_; rintro e W6 ⟨gt, T, rfl, hp, hr, hg, hf⟩; have HT6 := Lib.hid hr; have HTP := Lib.hid hp; have HTG := Lib.hid hg; have HF6 := Lib.hid hf; clear hr hp hg hf))
  clear HC3
  have HPV : Hid (∀ k, (Value.slice pa bs.length pc).ownBlock = some k → W1.heap.size ≤ k ∧ k < bp) := fun k e => by have := HO2.out.lt k e; have := HBP.out; omega
  have HES0 : Hid (ES W6 W6.heap.size bp bw bs.length (.slice pa bs.length pc) (.slice none 0 0) (fun i => bs.getD i 0) []) := by
    have f36 : Fr No W3 W6 := (HF4.out.trans HF5.out).trans HF6.out
    refine ⟨HRP0.out.fr f36 id, HRW0.out.fr HF6.out id, ?_, World.ownsRow_nil _ _ _ _, ?_, fun e => ?_, fun e => ?_, fun k e => ?_, ?_, ?_, Nat.le_refl _⟩
    · rw [← encI_eq]; exact own_base (own_fr2 HO2.out (HF3.out.trans f36) (fun _ _ => id)) (Nat.zero_le _)
    · have := HRP0.out.lt; have := HF4.out.size; have := HBW.out; omega
    · have := HPV.out bp e; omega
    · have := HPV.out bw e; have := HRP0.out.lt; have := HF4.out.size; have := HBW.out; omega
    · have := HPV.out k e; have := HRP0.out.lt; have := f36.size; omega
    · have := HRP0.out.lt; have := f36.size; omega
    · have := HRW0.out.lt; have := HF6.out.size; omega
  have HL6 := Lib.hid (HL4.out.fr (HF5.out.trans HF6.out) (fun _ _ _ => id))
  have HTF : Hid (gt < W6.heap.size ∧ bw < gt ∧ gh < bw) := ⟨HT6.out.lt, by have := HRW0.out.lt; have := HTG.out; omega, HL4.out.g_⟩
  have HLB : Hid (bp < W3.heap.size) := HRP0.out.lt
  have HTL : Hid (T.size = bs.length) := by have := perm_size HTP.out; rw [List.length_range] at this; exact this
  have HTM : Hid (∀ i, i < bs.length → i ∈ T.toList) := fun i hi => HTP.out.mem_iff.2 (List.mem_range.2 hi)
  have HTN : Hid (∀ i, i ∈ T.toList → i < bs.length) := fun i hi => List.mem_range.1 (HTP.out.mem_iff.1 hi)
  generalize hhi : W6.heap.size = hi at HES0 HTF ⊢
  have HHI := Lib.hid hhi
  clear hhi
  go_loopw [21] (fun vi wr => ∃ i : Nat, vi = .int .i64 i ∧ Hid (i ≤ bs.length ∧ (∃ wv p, ES wr hi bp bw bs.length (.slice pa bs.length pc) wv p [] ∧ Wl bs.length (fun i => bs.getD i 0) es (T.toList.take i) p [] 0 []) ∧ Fr (EF hi bw (.slice pa bs.length pc)) W6 wr)) (fun vi _ => bs.length - (intOf vi).toNat)
  case atStart => exact ⟨0, rfl, Nat.zero_le _, ⟨_, _, HES0.out, .start⟩, Fr.refl _ _⟩
  case round =>
    obtain ⟨i, rfl, HI⟩ := hrel
    have i0 : (0 : Int) ≤ i := by omega
    by_cases hi' : i < bs.length
    · have i1 : (i : Int) < bs.length := by omega
      have HI1 := Lib.hid hi'
      have HMS : Hid (bs.length - (intOf (Value.int IntKind.i64 ((i : Int) + 1))).toNat < bs.length - (intOf (Value.int IntKind.i64 (i : Int))).toNat) := by
        show _ < _
        simp only [intOf]
        omega
      obtain ⟨wv, p, hES, hWl⟩ := HI.out.2.1
      have HE := Lib.hid hES
      have HWl := Lib.hid hWl
      obtain ⟨av, cv, rfl⟩ := hES.wshape
      obtain ⟨gp, pc2, hpe, _, _⟩ := hES.shape hi'
      injection hpe with hpe1 _ hpe3
      subst hpe1 hpe3
      have hTi : i < T.size := by have := HTL.out; omega
      have hTr : RowAt wr gt 3 (encA T) := HT6.out.fr HI.out.2.2 (fun e => by
        rcases e with e | e | e
        · have := HTF.out; omega
        · have := HPV.out gt e; have := HLB.out; have := HTF.out; have := HL4.out.g_; have := HL4.out.lo_; omega
        · have := HTF.out; omega)
      have c1 : wr.cell? ⟨gt, i, none⟩ = some (.int .i64 ((T[i] : Nat) : Int)) := by rw [hTr.cell]; simp [encA, hTi]
      have HTI : Hid (T[i] < bs.length) := HTN.out _ (by simp)
      have HTK : Hid (T.toList.take (i + 1) = T.toList.take i ++ [T[i]]) := by
        show _ = _
        rw [List.take_add_one, List.getElem?_eq_getElem (by simpa using hTi)]; simp
      generalize T[i] = t at c1 HTI HTK
      clear hES hWl hTi hTr hi'
      have c2 : wr.cell? ⟨bw, 0, none⟩ = some (.slice av ([] : List Nat).length cv) := HE.out.rw_.cell 0
      have f2 : wr.frozen? ⟨bw, 0, none⟩ = false := HE.out.rw_.frozen 0
      obtain ⟨z0, hi0, hz0, hz1, hz2⟩ := info_parts info_int
      have HI0 := Lib.hid hi0
      have HZ0 := Lib.hid hz0
      have HZ1 := Lib.hid hz1
      have HZ2 := Lib.hid hz2
      clear hi0 hz0 hz1 hz2
      have HFA : Hid (Fr No wr (wr.alloc (.cells #[.int .i64 (t : Int)] 3))) := Fr.alloc _ _ _
      have HO : Hid ((wr.alloc (.cells #[.int .i64 (t : Int)] 3)).ownsRow hi 3 1 (.slice av ([] : List Nat).length cv) ([] : List Nat).length (encN [])) := own_fr2 HE.out.wr HFA.out (fun _ _ => id)
      have HONE : Hid (∀ u ∈ [Value.int .i64 (t : Int)], u.oneCell' = true) := by show ∀ u ∈ _, _; simp [Value.oneCell']
      have HMAX : Hid (([] : List Nat).length + 1 ≤ maxLen) := by show _ ≤ _; unfold maxLen; simp
      have HBYT : Hid ((([] : List Nat).length + 1) * 8 ≤ 140737488355328) := by show _ ≤ _; simp
      have HSZ : Hid (hi ≤ (wr.alloc (.cells #[.int .i64 (t : Int)] 3)).heap.size) := by have := HE.out.hh; show _ ≤ _; simp; omega
      have HPS : Hid (∀ ap cp w', w'.ownsRow hi 3 1 (.slice ap (([] : List Nat).length + 1) cp) (([] : List Nat).length + 1) (encN [] ++ [.int .i64 (t : Int)]) → (wr.alloc (.cells #[.int .i64 (t : Int)] 3)).grownBy w' (Value.slice av ([] : List Nat).length cv).ownBlock →
          (w'.cell? ⟨bw, 0, none⟩ = some (.slice av ([] : List Nat).length cv) ∧ w'.frozen? ⟨bw, 0, none⟩ = false) ∧ Hid (ES (w'.setCell ⟨bw, 0, none⟩ (.slice ap (([] : List Nat).length + 1) cp)) hi bp bw bs.length (.slice (some ⟨gp, 0, none⟩) bs.length pc) (.slice ap (([] : List Nat).length + 1) cp) p [t] ∧ Fr (EF hi bw (.slice (some ⟨gp, 0, none⟩) bs.length pc)) wr (w'.setCell ⟨bw, 0, none⟩ (.slice ap (([] : List Nat).length + 1) cp)))) := by
        intro ap cp w' hown hgr
        have hF2 : Fr (fun k => (Value.slice av ([] : List Nat).length cv).ownBlock = some k) wr w' := HFA.out.any.trans (Fr.grown hgr (fun k e => e))
        have hlt : ∀ k, (Value.slice av ([] : List Nat).length cv).ownBlock = some k → hi ≤ k := fun k e => (HE.out.wr.lt k e).1
        have hrw2 : RowAt w' bw 22 #[.slice av ([] : List Nat).length cv] := HE.out.rw_.fr hF2 (fun e => by have := hlt bw e; have := HE.out.h2; omega)
        have hvlt : ∀ k, (Value.slice ap (([] : List Nat).length + 1) cp).ownBlock = some k → hi ≤ k := fun k e => (hown.lt k e).1
        have HFs : Fr (fun k => k = bw) w' (w'.setCell ⟨bw, 0, none⟩ (.slice ap (([] : List Nat).length + 1) cp)) := Fr.set (S := fun k => k = bw) _ _ _ _ rfl
        refine ⟨⟨hrw2.cell 0, hrw2.frozen 0⟩, ⟨?_, ?_, ?_, ?_, HE.out.ne, HE.out.p1, HE.out.p2, HE.out.ph, HE.out.h1, HE.out.h2, ?_⟩, ?_⟩
        · exact (HE.out.rp.fr hF2 (fun e => by have := hlt bp e; have := HE.out.h1; omega)).fr HFs (fun e => HE.out.ne e)
        · exact RowAt.set hrw2 0 _
        · exact own_fr2 (own_fr2 HE.out.pr hF2 (fun k e e2 => by have := hlt k e2; have := HE.out.ph k e; omega)) HFs (fun k e e2 => HE.out.p2 (by rw [e, e2]))
        · exact own_fr2 hown HFs (fun k e e2 => by have := hvlt k e; have := HE.out.h2; omega)
        · have := HE.out.hh; have := hF2.size; have := HFs.size; omega
        · exact (hF2.mono (fun k _ e => .inr (.inr (hlt k e)))).trans (HFs.mono (fun k _ e => .inl e))
      go_upto_region 9 with ((at_builtin; refine wpList_append_own (wr.alloc (.cells #[.int .i64 (t : Int)] 3)) rfl (.tmp 25) (.tmp 27) 22 rfl hi 3 z0 (.int .i64 0) 1 8 Try.underlying22 HI0.out HZ0.out HZ1.out HZ2.out rfl (by decide) (.slice av ([] : List Nat).length cv) ([] : List Nat).length (encN []) rfl HO.out ⟨wr.heap.size, 0, none⟩ 1 1 [.int .i64 (t : Int)] rfl rfl (cell_one_new wr _ _) HONE.out HMAX.out HBYT.out HSZ.out ?_; intro v2 w' h2 h3 h4; obtain ⟨ap, cp, hv2⟩ := own_shape h2; subst hv2; obtain ⟨⟨c3, f3⟩, HP2⟩ := HPS.out ap cp w' h2 h3; clear h2 h3 h4))
      have HW7 : Hid (Wl bs.length (fun i => bs.getD i 0) es (T.toList.take (i + 1)) p [t] 0 []) := by show Wl _ _ _ _ _ _ _ _; rw [HTK.out]; exact HWl.out.push HTI.out
      have HF7 := Lib.hid (HI.out.2.2.trans HP2.out.2)
      have HE7 := Lib.hid HP2.out.1
      have HPOT : Hid (pot bs.length p ≤ 65280) := by
        have h1 := pot_le (p := p) bs.length (fun j hj => (HWl.out.le HPR.out j hj).1)
        have := HN.out
        show _ ≤ _
        omega
      clear c3 f3 c1 c2 f2 HP2 HPS HSZ HO HFA HE HWl HTK HTI HI
      generalize World.setCell w' _ _ = W7 at HE7 HF7 ⊢
      go_loopg [] (2 * pot bs.length p + 1) (fun k wr => Hid (k ≤ 200000 ∧ ∃ wv p q, ES wr hi bp bw bs.length (.slice (some ⟨gp, 0, none⟩) bs.length pc) wv p q ∧ Wl bs.length (fun i => bs.getD i 0) es (T.toList.take (i + 1)) p q 0 [] ∧ 2 * pot bs.length p + q.length ≤ k ∧ Fr (EF hi bw (.slice (some ⟨gp, 0, none⟩) bs.length pc)) W6 wr))
      case atStart => exact ⟨by have := HPOT.out; omega, _, _, _, HE7.out, HW7.out, Nat.le_refl _, HF7.out⟩
      case round =>
        obtain ⟨hgk, wv2, p2, q2, hES2, hWl2, hpot2, hF2⟩ := hrel.out
        have HGK := Lib.hid hgk
        have HE2 := Lib.hid hES2
        have HWl2 := Lib.hid hWl2
        have HPOT2 := Lib.hid hpot2
        have HF22 := Lib.hid hF2
        obtain ⟨av2, cv2, rfl⟩ := hES2.wshape
        clear hES2 hWl2 hpot2 hF2 hgk hrel HE7 HW7 HF7
        rcases List.eq_nil_or_concat q2 with rfl | ⟨q3, xx, hqq⟩
        · have c2 : wr.cell? ⟨bw, 0, none⟩ = some (.slice av2 0 cv2) := HE2.out.rw_.cell 0
          go_wp2
          go_roundw
          case rel => exact ⟨i + 1, by push_cast; rfl, HI1.out, ⟨_, _, HE2.out, HWl2.out⟩, HF22.out⟩
          case measure => exact HMS.out
        · rw [List.concat_eq_append] at hqq
          subst hqq
          have hxx : xx < bs.length := HWl2.out.qn xx (List.mem_append_right _ (List.mem_singleton.2 rfl))
          have HXX := Lib.hid hxx
          rw [List.length_append, List.length_singleton] at HE2 HPOT2
          obtain ⟨gw, hav⟩ : ∃ gw, av2 = some ⟨gw, 0, none⟩ := by
            rcases HE2.out.wr.2 with ⟨_, h0⟩ | ⟨g, cap, cur, e, _⟩
            · rw [List.length_append] at h0; simp at h0
            · injection e with e; exact ⟨g, e⟩
          subst hav
          have ho := HE2.out.wr
          rw [List.length_append, List.length_singleton] at ho
          have HOW := Lib.hid ho
          have c2 : wr.cell? ⟨bw, 0, none⟩ = some (.slice (some ⟨gw, 0, none⟩) (q3.length + 1) cv2) := HE2.out.rw_.cell 0
          have f2 : wr.frozen? ⟨bw, 0, none⟩ = false := HE2.out.rw_.frozen 0
          have c4 : wr.cell? ⟨gw, q3.length, none⟩ = some (.int .i64 (xx : Int)) := by rw [ho.cellAt q3.length (by omega)]; simp [encN]
          have hcv : q3.length + 1 ≤ cv2 := by
            rcases ho.2 with ⟨e, _⟩ | ⟨g, cap, cur, e, _, _, h4, _⟩
            · cases e
            · injection e with _ _ e3; omega
          have HPOP : Hid (wr.ownsRow hi 3 1 (.slice (some ⟨gw, 0, none⟩) q3.length cv2) q3.length (encN q3)) := by
            refine ownsRow_pop (last := [.int .i64 (xx : Int)]) (by rw [encN_len]; omega) ?_
            have := HOW.out; simpa [encN] using this
          have HW3 : Hid (Wl bs.length (fun i => bs.getD i 0) es (T.toList.take (i + 1)) p2 q3 xx (outs es xx)) := HWl2.out.pop
          have HES3 : Hid (ES (wr.setCell ⟨bw, 0, none⟩ (.slice (some ⟨gw, 0, none⟩) q3.length cv2)) hi bp bw bs.length (.slice (some ⟨gp, 0, none⟩) bs.length pc) (.slice (some ⟨gw, 0, none⟩) q3.length cv2) p2 q3 ∧ Fr (EF hi bw (.slice (some ⟨gp, 0, none⟩) bs.length pc)) wr (wr.setCell ⟨bw, 0, none⟩ (.slice (some ⟨gw, 0, none⟩) q3.length cv2))) := by
            have HFs : Fr (fun k => k = bw) wr (wr.setCell ⟨bw, 0, none⟩ (.slice (some ⟨gw, 0, none⟩) q3.length cv2)) := Fr.set (S := fun k => k = bw) _ _ _ _ rfl
            refine ⟨⟨HE2.out.rp.fr HFs (fun e => HE2.out.ne e), RowAt.set HE2.out.rw_ 0 _, own_fr2 HE2.out.pr HFs (fun k e e2 => HE2.out.p2 (by rw [e, e2])), own_fr2 HPOP.out HFs (fun k e e2 => by have := (HPOP.out.lt k e).1; have := HE2.out.h2; omega), HE2.out.ne, HE2.out.p1, HE2.out.p2, HE2.out.ph, HE2.out.h1, HE2.out.h2, Nat.le_trans HE2.out.hh HFs.size⟩, HFs.mono (fun k _ e => .inl e)⟩
          have HPOT3 : Hid (2 * pot bs.length p2 + q3.length + 1 ≤ gk) := by have := HPOT2.out; show _ ≤ _; omega
          have x0 : (0 : Int) ≤ xx := by omega
          have x1 : (xx : Int) < bs.length := by omega
          have m0 : (0 : Int) ≤ q3.length := by omega
          have m1 : (q3.length : Int) ≤ 200000 := by have := HPOT3.out; have := HGK.out; omega
          have m2 : (q3.length : Int) + 1 ≤ cv2 := by omega
          have HPOT4 := HPOT3
          clear ho hxx HWl2 HPOT2 HOW HPOP hcv
          generalize q3.length = m at c2 c4 HES3 HPOT3 m0 m1 m2 ⊢
          go_upto_region 12 with (fail)
          have HE8 := Lib.hid HES3.out.1
          have HF8 := Lib.hid (HF22.out.trans HES3.out.2)
          clear HES3 HE2 HF22 c2 f2 c4
          generalize World.setCell wr _ _ = W8 at HE8 HF8 ⊢
          have HNE : Hid (∀ k, W3.heap.size ≤ k → k < bw → ¬ EF hi bw (.slice (some ⟨gp, 0, none⟩) bs.length pc) k) := fun k h1 h2 e => by
            rcases e with e | e | e
            · omega
            · have := HPV.out k e; have := HLB.out; omega
            · have := HTF.out; omega
          obtain ⟨ha, hcp, ch, _, _⟩ := (HL6.out.fr HF8.out HNE.out).get HXX.out
          have HLE : Hid (((outs es xx).length : Int) ≤ 65536) := by have := outs_len es xx; have := HM.out; show _ ≤ _; omega
          have hl0 : ((outs es xx).length : Int) ≤ 65536 := HLE.out
          have HLL : Hid (∀ w, Fr (EF hi bw (.slice (some ⟨gp, 0, none⟩) bs.length pc)) W6 w → NumsIn w ha (natI (outs es xx))) := fun w hw => by
            obtain ⟨ha2, hcp2, ch2, hn2, _⟩ := (HL6.out.fr hw HNE.out).get HXX.out
            obtain ⟨ha3, hcp3, ch3, _, _⟩ := HL6.out.get HXX.out
            have e1 := (World.cell?_of_block (a := ⟨gh, xx, none⟩) (hw.block gh (by have := HTF.out; have := HHI.out; omega) (HNE.out gh HL6.out.lo_ HL6.out.g_))).trans ch3
            have e2 := (World.cell?_of_block (a := ⟨gh, xx, none⟩) (HF8.out.block gh (by have := HTF.out; have := HHI.out; omega) (HNE.out gh HL6.out.lo_ HL6.out.g_))).trans ch3
            rw [ch2] at e1; rw [ch] at e2
            injection e1 with e1; injection e1 with e1
            injection e2 with e2; injection e2 with e2
            rw [e2, ← e1]; exact hn2
          have HOL : Hid (∀ k h, (outs es xx)[k]? = some h → h < bs.length ∧ (xx, h) ∈ es ∧ (outs es xx).drop k = h :: (outs es xx).drop (k + 1)) := fun k h hk => by
            obtain ⟨q1, q2⟩ := List.getElem?_eq_some_iff.1 hk
            have q3 := List.mem_of_getElem? hk
            exact ⟨outs_lt HV.out q3, mem_outs.1 q3, by rw [List.drop_eq_getElem_cons q1, q2]⟩
          have HLN : Hid (∀ k, (outs es xx).length ≤ k → (outs es xx).drop k = []) := fun k hk => List.drop_eq_nil_of_le hk
          have HD0 : Hid ((outs es xx).drop 0 = outs es xx) := rfl
          generalize outs es xx = L at HW3 HLE HLL HOL HLN HD0 ch hl0 ⊢
          go_wp2
          go_loopw [48] (fun vk w9 => ∃ k : Nat, vk = .int .i64 k ∧ Hid (k ≤ L.length ∧ (∃ wv p q, ES w9 hi bp bw bs.length (.slice (some ⟨gp, 0, none⟩) bs.length pc) wv p q ∧ Wl bs.length (fun i => bs.getD i 0) es (T.toList.take (i + 1)) p q xx (L.drop k) ∧ 2 * pot bs.length p + q.length + 1 ≤ gk) ∧ Fr (EF hi bw (.slice (some ⟨gp, 0, none⟩) bs.length pc)) W6 w9)) (fun vk _ => L.length - (intOf vk).toNat)
          case atStart => exact ⟨0, rfl, Nat.zero_le _, ⟨_, _, _, HE8.out, HW3.out, HPOT4.out⟩, HF8.out⟩
          case round =>
            obtain ⟨k, rfl, HK⟩ := hrel
            have k0 : (0 : Int) ≤ k := by omega
            by_cases hk : k < L.length
            · have k1 : (k : Int) < L.length := by omega
              have HK1 := Lib.hid hk
              have HMK : Hid (L.length - (intOf (Value.int IntKind.i64 ((k : Int) + 1))).toNat < L.length - (intOf (Value.int IntKind.i64 (k : Int))).toNat) := by
                show _ < _
                simp only [intOf]
                omega
              obtain ⟨hb, hoff, rfl, hlt9, c9⟩ := (HLL.out wr HK.out.2.2).get (i := k) (by rw [natI_len]; exact hk)
              have hh : L[k]? = some L[k] := List.getElem?_eq_getElem hk
              have HHH := Lib.hid (HOL.out k _ hh)
              rw [natI_getD, List.getD_eq_getElem?_getD, hh] at c9
              simp only [Option.getD_some] at c9
              clear hlt9 hh
              generalize L[k] = h at c9 HHH
              obtain ⟨wv9, p9, q9, hES9, hWl9, hpot9⟩ := HK.out.2.1
              have HE9 := Lib.hid hES9
              have HW9 := Lib.hid hWl9
              have HP9 := Lib.hid hpot9
              have HL9 : Hid (p9 xx ≤ 255) := (hWl9.le HPR.out xx HXX.out).2
              obtain ⟨gp2, pc3, hpe2, hcc, _⟩ := hES9.shape HXX.out
              injection hpe2 with e1 _ e3
              injection e1 with e1
              injection e1 with e1
              subst e1 e3
              have c5 := hcc xx HXX.out
              have c6 : wr.cell? ⟨bp, 0, none⟩ = some (.slice (some ⟨gp, 0, none⟩) bs.length pc) := hES9.rp.cell 0
              clear hES9 hWl9 hpot9 hcc hk
              by_cases hlt : p9 h < p9 xx
              · have HC := Lib.hid (raise_yes HE9.out h (p9 xx) HHH.out.1 hlt (by have := HP9.out; have := HGK.out; omega))
                have HLT := Lib.hid hlt
                clear hlt
                generalize hy : p9 xx = y at c5 HC
                have HY := Lib.hid hy
                clear hy
                go_wp2_with (go_at_call 45; refine HC.out.mono ?_; rintro e w10 ⟨rfl, ⟨wv10, h10⟩, f10⟩; have H10 := Lib.hid h10; have F10 := Lib.hid f10; clear h10 f10)
                go_roundw
                case rel =>
                  refine ⟨k + 1, by push_cast; rfl, HK1.out, ⟨wv10, _, _, H10.out, ?_, ?_⟩, HK.out.2.2.trans F10.out⟩
                  · have := HW9.out
                    rw [HHH.out.2.2] at this
                    rw [← HY.out]
                    exact this.yes HXX.out HHH.out.1 HHH.out.2.1 HLT.out
                  · have := pot_up (v := y) HHH.out.1 (by rw [← HY.out]; exact HLT.out) (by rw [← HY.out]; exact HL9.out)
                    have := HP9.out
                    rw [List.length_append, List.length_singleton]; omega
                case measure => exact HMK.out
              · have HC := Lib.hid (raise_no HE9.out h (p9 xx) HHH.out.1 hlt)
                have HLT := Lib.hid hlt
                clear hlt
                generalize hy : p9 xx = y at c5 HC
                have HY := Lib.hid hy
                clear hy
                go_wp2_with (go_at_call 45; refine HC.out.mono ?_; rintro e w10 ⟨rfl, rfl⟩)
                go_roundw
                case rel =>
                  refine ⟨k + 1, by push_cast; rfl, HK1.out, ⟨_, _, _, HE9.out, ?_, HP9.out⟩, HK.out.2.2⟩
                  have := HW9.out
                  rw [HHH.out.2.2] at this
                  exact this.no (by have := HLT.out; omega)
                case measure => exact HMK.out
            · have hlt : ¬ (k : Int) < L.length := by omega
              have HK1 := Lib.hid hk
              clear hk
              go_wp2
              go_roundg (gk - 1)
              case measure =>
                obtain ⟨_, _, _, _, _, h⟩ := HK.out.2.1
                omega
              case rel =>
                obtain ⟨wv9, p9, q9, h1, h2, h3⟩ := HK.out.2.1
                rw [HLN.out k (by have := HK1.out; omega)] at h2
                exact ⟨by have := HGK.out; omega, _, _, _, h1, h2.any, by omega, HK.out.2.2⟩
    · have hil : i = bs.length := by have := HI.out.1; omega
      have hlt : ¬ (i : Int) < bs.length := by omega
      have HIL := Lib.hid hil
      clear hi' hil
      obtain ⟨wv, p, hES, hWl⟩ := HI.out.2.1
      have HE := Lib.hid hES
      have HWl := Lib.hid hWl
      have c6 : wr.cell? ⟨bp, 0, none⟩ = some (.slice pa bs.length pc) := hES.rp.cell 0
      clear hES hWl
      go_wp2
      go_ret
      have hd : ∀ j, j < bs.length → j ∈ T.toList.take i := fun j hj => by
        rw [HIL.out, List.take_of_length_le (by have := HTL.out; simp; omega)]; exact HTM.out j hj
      have hF : Fr No W W6 := ((((HF0.out.trans HF2.out).trans HF3.out).trans HF4.out).trans HF5.out).trans HF6.out
      refine ⟨_, rfl, p, HWl.out.done HV.out hd, ?_, hF.over HI.out.2.2 (fun k e => ?_)⟩
      · refine ⟨HE.out.pr.1, HE.out.pr.2.imp id fun ⟨g, cap, cur, h1, h2, r⟩ => ⟨g, cap, cur, h1, ?_, r⟩⟩
        have := (HPV.out g (by rw [h1]; rfl)).1
        have := HF0.out.size
        omega
      · have hs : W.heap.size ≤ W1.heap.size := HF0.out.size
        have hs2 : W.heap.size ≤ W6.heap.size := hF.size
        have hs4 : W.heap.size ≤ W4.heap.size := (((HF0.out.trans HF2.out).trans HF3.out).trans HF4.out).size
        rcases e with e | e | e
        · have := HBW.out; omega
        · have := (HPV.out k e).1; omega
        · have := HHI.out; omega
end Go.Proofs.Yteikipiigbjgbaa
