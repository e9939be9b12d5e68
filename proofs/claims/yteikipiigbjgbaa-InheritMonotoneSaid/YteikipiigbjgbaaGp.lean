/- distancesTo. -/
import Derived.Test.YteikipiigbjgbaaGo
namespace Go.Proofs.Yteikipiigbjgbaa
open Go.RowKit
set_option linter.unusedVariables false

theorem dist_fill {n k : Nat} (h : k < n) : encPA n (upI (fun j => if j < k then -1 else 0) k (-1)) = encPA n (fun j => if j < k + 1 then -1 else 0) := by
  refine encPA_congr fun i hi => ?_
  by_cases e : i = k
  · subst e; rw [upI_same, if_pos (by omega)]
  · rw [upI_other e]
    by_cases h2 : i < k
    · rw [if_pos h2, if_pos (by omega)]
    · rw [if_neg h2, if_neg (by omega)]
theorem dist_start (n t : Nat) : encPA n (upI (fun j => if j < n then -1 else 0) t 0) = encPA n (start t) := by
  refine encPA_congr fun i hi => ?_
  by_cases e : i = t
  · subst e; rw [upI_same, start_t]
  · rw [upI_other e, start_o e, if_pos hi]
/-- What the outer loop carries. -/
structure DQ (n : Nat) (es : Es) (t : Nat) (R : Nat → Int) (gd : Nat) (W2 wr : World) (f : Nat) (D : Nat → Int) (l : List Nat) : Prop where
  row : RowAt wr gd 3 (encPA n D)
  eq : bfs (ins es) f D l = R
  bf : Bf n es t D l
  cnt : blank n D + l.length ≤ f
  ub : ∀ x, D x + f ≤ n
  fr : Fr (fun k => gd ≤ k) W2 wr
/-- What the inner loop carries. -/
structure DV (n gd g4 gk h : Nat) (d : Int) (L : List Nat) (RV : (Nat → Int) × List Nat) (W2 w : World) (q off cap k : Nat) (D2 : Nat → Int) (l2 : List Nat) : Prop where
  que : Que w g4 q off cap (h :: l2)
  row : RowAt w gd 3 (encPA n D2)
  eq : visit d (L.drop k) D2 l2 = RV
  dh : D2 h + 1 = d
  ub : ∀ x, D2 x + gk ≤ n + 1
  cnt : blank n D2 + l2.length ≤ 256
  fr : Fr (fun k => gd ≤ k) W2 w
set_option maxRecDepth 100000 in
set_option maxHeartbeats 8000000 in
theorem dist_any {lo hi g n : Nat} {es : Es} {W : World} (hL : ListsIn W lo hi g n (ins es)) (hv : Val n es) (hn : n ≤ 256) (hm : es.length ≤ 65536) (t : Nat) (ht : t < n) :
    Calls Try.prog 34 #[.int .i64 (t : Int), .slice (some ⟨g, 0, none⟩) n n] W fun e w' => ∃ gd, e = .returned (.slice (some ⟨gd, 0, none⟩) n n) ∧ RowAt w' gd 3 (encPA n (dist n es t)) ∧ W.heap.size ≤ gd ∧ Fr No W w' := by
  have HL := Lib.hid hL
  have HV := Lib.hid hv
  have HN := Lib.hid hn
  have HM := Lib.hid hm
  have HT := Lib.hid ht
  have hmk := make_ints n (by omega)
  rw [fillA_enc] at hmk
  have n0 : (0 : Int) ≤ n := by omega
  have n1 : (n : Int) ≤ 256 := by omega
  have t0 : (0 : Int) ≤ t := by omega
  have t1 : (t : Int) < n := by omega
  have HR : Hid (bfs (ins es) n (start t) [t] = dist n es t) := rfl
  generalize hD : dist n es t = R at HR
  clear hD hL hv hn hm ht
  go_enter Try.func34, Try.ntmps34
  go_upto_region 2 with (fail)
  have HG0 := Lib.hid (RowAt.new W 3 (encPA n (fun _ => 0)))
  have HF1 : Hid (Fr No W (W.alloc (.cells (encPA n (fun _ => 0)) 3))) := Fr.alloc _ _ _
  clear hmk
  generalize World.alloc W _ = W2 at HG0 HF1 ⊢
  generalize hgd : W.heap.size = gd at HG0 ⊢
  have HGD := Lib.hid hgd
  clear hgd
  go_wp2
  go_loopw [16] (fun vi wr => ∃ i : Nat, vi = .int .i64 i ∧ Hid (i ≤ n ∧ RowAt wr gd 3 (encPA n (fun j => if j < i then -1 else 0)) ∧ Fr (fun k => gd ≤ k) W2 wr)) (fun vi _ => n - (intOf vi).toNat)
  case atStart => exact ⟨0, rfl, Nat.zero_le _, by rw [encPA_congr (q := fun _ => 0) (fun i _ => if_neg (Nat.not_lt_zero _))]; exact HG0.out, Fr.refl _ _⟩
  case round =>
    obtain ⟨i, rfl, HI⟩ := hrel
    have i0 : (0 : Int) ≤ i := by omega
    by_cases hi' : i < n
    · have i1 : (i : Int) < n := by omega
      have HI1 := Lib.hid hi'
      have HMS : Hid (n - (intOf (Value.int IntKind.i64 ((i : Int) + 1))).toNat < n - (intOf (Value.int IntKind.i64 (i : Int))).toNat) := by
        show _ < _
        simp only [intOf]
        omega
      have c1 : wr.cell? ⟨gd, i, none⟩ = some (.int .i64 0) := by rw [HI.out.2.1.cell, encPA_get _ hi', if_neg (Nat.lt_irrefl _)]
      have f1 : wr.frozen? ⟨gd, i, none⟩ = false := HI.out.2.1.frozen i
      clear hi'
      go_wp2
      go_roundw
      case rel => exact ⟨i + 1, by push_cast; rfl, HI1.out, by rw [← dist_fill HI1.out, ← encPA_set]; exact HI.out.2.1.set _ _, HI.out.2.2.trans (Fr.set _ _ _ _ (Nat.le_refl _))⟩
      case measure => exact HMS.out
    · have hil : i = n := by have := HI.out.1; omega
      have hlt : ¬ (i : Int) < n := by omega
      have c1 : wr.cell? ⟨gd, t, none⟩ = some (.int .i64 (if t < i then -1 else 0)) := by rw [HI.out.2.1.cell, encPA_get _ HT.out]
      have f1 : wr.frozen? ⟨gd, t, none⟩ = false := HI.out.2.1.frozen t
      rw [if_pos (by have := HT.out; omega)] at c1
      have HIL := Lib.hid hil
      clear hi' hil
      go_upto_region 8 with (fail)
      have HR4 : Hid (RowAt (wr.setCell ⟨gd, t, none⟩ (.int .i64 0)) gd 3 (encPA n (start t))) := by
        have := RowAt.set HI.out.2.1 t (.int .i64 0)
        rw [encPA_set, HIL.out, dist_start] at this; exact this
      have HF4 : Hid (Fr (fun k => gd ≤ k) W2 (wr.setCell ⟨gd, t, none⟩ (.int .i64 0))) := HI.out.2.2.trans (Fr.set _ _ _ _ (Nat.le_refl _))
      clear c1 f1
      generalize World.setCell wr _ _ = W4 at HR4 HF4 ⊢
      have HLT4 : Hid (gd < W4.heap.size) := HR4.out.lt
      have HQ5 := Lib.hid (Que.new W4 t)
      have HF5 : Hid (Fr No W4 (W4.alloc (.cells #[.int .i64 (t : Int)] 3))) := Fr.alloc _ _ _
      go_upto_region 9 with (fail)
      generalize World.alloc W4 _ = W5 at HQ5 HF5 ⊢
      generalize hg4 : W4.heap.size = g4 at HQ5 HLT4 ⊢
      have HG4 := Lib.hid hg4
      clear hg4
      have HDQ : Hid (DQ n es t R gd W2 W5 n (start t) [t]) := by
        refine ⟨HR4.out.fr HF5.out id, HR.out, bf_start HT.out, by have := blank_start HT.out; rw [List.length_singleton]; omega, fun y => ?_, HF4.out.trans HF5.out.any⟩
        by_cases e : y = t
        · subst e; rw [start_t]; omega
        · rw [start_o e]; omega
      go_loopg [7] n (fun f v7 wr => ∃ q off cap l, v7 = .slice (some ⟨q, off, none⟩) (l : List Nat).length cap ∧ Hid (Que wr g4 q off cap l ∧ ∃ D, DQ n es t R gd W2 wr f D l))
      case atStart => exact ⟨g4, 0, 1, [t], rfl, HQ5.out, _, HDQ.out⟩
      case round =>
        obtain ⟨q, off, cap, l, rfl, HQD⟩ := hrel
        obtain ⟨hQ, D, hD⟩ := HQD.out
        have HQ := Lib.hid hQ
        have HD := Lib.hid hD
        clear HQD hQ hD HDQ HQ5 HR4 HF4
        have HGG : Hid (gd < g4) := HLT4.out
        have HWG : Hid (hi ≤ gd) := by have := HL.out.hi_; have := HGD.out; show _ ≤ _; omega
        cases l with
        | nil =>
          go_wp2
          go_ret
          have e := HD.out.eq
          have e2 : bfs (ins es) gk D [] = D := by cases gk <;> rfl
          rw [e2] at e
          refine ⟨gd, rfl, by rw [← e]; exact HD.out.row, Nat.le_of_eq HGD.out, HF1.out.over HD.out.fr (fun k e => .inr (by have := HGD.out; omega))⟩
        | cons h l =>
          have hh : h < n := HD.out.bf.lt h (HD.out.bf.qn h (List.mem_cons_self ..))
          have HH := Lib.hid hh
          have h0 : (0 : Int) ≤ h := by omega
          have h1 : (h : Int) < n := by omega
          have c1 : wr.cell? ⟨q, off, none⟩ = some (.int .i64 (h : Int)) := HQ.out.head
          have HLw : Hid (∀ w, Fr (fun k => gd ≤ k) W2 w → ListsIn w lo hi g n (ins es)) := fun w hw => (HL.out.fr HF1.out (fun _ _ _ => id)).fr hw (fun k _ h2 h3 => by have := HWG.out; omega)
          obtain ⟨ha, hcp, ch, hnums, _⟩ := (HLw.out wr HD.out.fr).at_ h hh
          have HLN0 := Lib.hid hnums
          have HLL : Hid (∀ w, Fr (fun k => gd ≤ k) W2 w → NumsIn w ha (natI (ins es h))) := fun w hw => by
            obtain ⟨ha2, hcp2, ch2, hn2, _⟩ := (HLw.out w hw).at_ h HH.out
            have hl2 := HL.out.fr HF1.out (fun _ _ _ => id)
            obtain ⟨ha3, hcp3, ch3, _, _⟩ := hl2.at_ h HH.out
            have hg : g < W2.heap.size := by have := hl2.g_; have := hl2.hi_; omega
            have hng : ¬ gd ≤ g := by have := hl2.g_; have := HWG.out; omega
            have e1 := (World.cell?_of_block (a := ⟨g, h, none⟩) (hw.block g hg hng)).trans ch3
            have e2 := (World.cell?_of_block (a := ⟨g, h, none⟩) (HD.out.fr.block g hg hng)).trans ch3
            rw [ch2] at e1; rw [ch] at e2
            injection e1 with e1; injection e1 with e1
            injection e2 with e2; injection e2 with e2
            rw [e2, ← e1]; exact hn2
          have HLE : Hid (((ins es h).length : Int) ≤ 65536) := by
            have h1 : (ins es h).length ≤ es.length := by
              unfold ins
              rw [List.length_map]; exact List.length_filter_le _ _
            have := HM.out
            show _ ≤ _; omega
          have hl0 : ((ins es h).length : Int) ≤ 65536 := HLE.out
          have HOL : Hid (∀ k y, (ins es h)[k]? = some y → y < n ∧ (ins es h).drop k = y :: (ins es h).drop (k + 1)) := fun k y hk => by
            obtain ⟨q1, q2⟩ := List.getElem?_eq_some_iff.1 hk
            exact ⟨ins_lt HV.out (List.mem_of_getElem? hk), by rw [List.drop_eq_getElem_cons q1, q2]⟩
          have HLN : Hid (∀ k, (ins es h).length ≤ k → (ins es h).drop k = []) := fun k hk => List.drop_eq_nil_of_le hk
          have hDh := HD.out.bf.ge h (HD.out.bf.qn h (List.mem_cons_self ..))
          have hDu := HD.out.ub h
          have HST := Lib.hid (bf_step HV.out HD.out.bf)
          have HEQ : Hid (1 ≤ gk ∧ bfs (ins es) (gk - 1) (visit (D h + 1) (ins es h) D l).1 (visit (D h + 1) (ins es h) D l).2 = R ∧ blank n D + l.length + 1 ≤ gk) := by
            have h1 := HD.out.cnt
            have h2 := HD.out.eq
            rw [List.length_cons] at h1
            obtain ⟨f, rfl⟩ : ∃ f, gk = f + 1 := ⟨gk - 1, by omega⟩
            exact ⟨by omega, by rw [bfs] at h2; exact h2, by omega⟩
          have HVS : Hid (visit (D h + 1) ((ins es h).drop 0) D l = visit (D h + 1) (ins es h) D l) := rfl
          generalize visit (D h + 1) (ins es h) D l = RV at HST HEQ HVS
          have HRow0 := Lib.hid HD.out.row
          have HUB := Lib.hid HD.out.ub
          have HFR0 := Lib.hid HD.out.fr
          have HCNT : Hid (blank n D + l.length ≤ 256) := by
            have h1 : blank n D ≤ n := by unfold blank; exact Nat.le_trans (List.length_filter_le _ _) (by rw [List.length_range]; exact Nat.le_refl _)
            have := HEQ.out.2.2
            have h2 := HD.out.ub t
            rw [HD.out.bf.t0] at h2
            have := HN.out
            show _ ≤ _; omega
          have HVIS : Hid (∀ D2 l2 k, visit (D h + 1) ((ins es h).drop k) D2 l2 = RV → True) := fun _ _ _ _ => trivial
          clear HVIS hnums hh HD
          generalize hdd : D h + 1 = d at HVS HST
          have HDD := Lib.hid hdd
          have d1 : 1 ≤ d := by omega
          have HDU : Hid (d + gk ≤ n + 1) := by show _ ≤ _; omega
          have d2 : d ≤ 257 := by have := HDU.out; have := HN.out; omega
          generalize hL : ins es h = L at HLL HLE HOL HLN HVS ch hl0 HST
          clear hdd hDh hDu hL HLN0
          rw [List.length_cons] at *
          go_wp2
          go_loopw [7, 41] (fun v7 vk w9 => ∃ (k q off cap : Nat) (l2 : List Nat), vk = .int .i64 k ∧ v7 = .slice (some ⟨q, off, none⟩) (l2.length + 1) cap ∧ Hid (k ≤ L.length ∧ ∃ D2, DV n gd g4 gk h d L RV W2 w9 q off cap k D2 l2)) (fun _ vk _ => L.length - (intOf vk).toNat)
          case atStart => exact ⟨0, q, off, cap, l, rfl, rfl, Nat.zero_le _, D, HQ.out, HRow0.out, HVS.out, HDD.out, fun x => by have := HUB.out x; omega, HCNT.out, HFR0.out⟩
          case round =>
            obtain ⟨k, q2, off2, cap2, l2, rfl, rfl, HK⟩ := hrel
            have k0 : (0 : Int) ≤ k := by omega
            obtain ⟨D2, hV⟩ := HK.out.2
            have HV2 := Lib.hid hV
            by_cases hk : k < L.length
            · have k1 : (k : Int) < L.length := by omega
              have HK1 := Lib.hid hk
              have HMK : Hid (L.length - (intOf (Value.int IntKind.i64 ((k : Int) + 1))).toNat < L.length - (intOf (Value.int IntKind.i64 (k : Int))).toNat) := by
                show _ < _
                simp only [intOf]
                omega
              obtain ⟨hb, hoff, rfl, hlt9, c9⟩ := (HLL.out wr hV.fr).get (i := k) (by rw [natI_len]; exact hk)
              have hh : L[k]? = some L[k] := List.getElem?_eq_getElem hk
              have HHH := Lib.hid (HOL.out k _ hh)
              rw [natI_getD, List.getD_eq_getElem?_getD, hh] at c9
              simp only [Option.getD_some] at c9
              clear hlt9 hh hk
              generalize L[k] = y at c9 HHH
              have y0 : (0 : Int) ≤ y := by omega
              have y1 : (y : Int) < n := by have := HHH.out.1; omega
              have c10 : wr.cell? ⟨gd, y, none⟩ = some (.int .i64 (D2 y)) := by rw [hV.row.cell, encPA_get _ HHH.out.1]
              have f10 : wr.frozen? ⟨gd, y, none⟩ = false := hV.row.frozen y
              have HVE : Hid (visit d (y :: L.drop (k + 1)) D2 l2 = RV) := by show _ = _; rw [← HHH.out.2]; exact hV.eq
              by_cases hy : D2 y = -1
              · have c11 : wr.cell? ⟨gd, h, none⟩ = some (.int .i64 (d - 1)) := by rw [hV.row.cell, encPA_get _ HH.out, show D2 h = d - 1 from by have := hV.dh; omega]
                rw [hy] at c10
                have HY := Lib.hid hy
                have hdm : d - 1 + 1 = d := by omega
                have HYH : Hid (h ≠ y) := fun e => by have := hV.dh; rw [e, hy] at this; omega
                clear hy hV
                go_upto_region 17 with (fail)
                have HR1 : Hid (RowAt (wr.setCell ⟨gd, y, none⟩ (.int .i64 d)) gd 3 (encPA n (upI D2 y d))) := by rw [← encPA_set]; exact HV2.out.row.set y _
                have HF10 : Hid (Fr (fun k => gd ≤ k) wr (wr.setCell ⟨gd, y, none⟩ (.int .i64 d))) := Fr.set _ _ _ _ (Nat.le_refl _)
                have HQ10 : Hid (Que (wr.setCell ⟨gd, y, none⟩ (.int .i64 d)) g4 q2 off2 cap2 (h :: l2)) := HV2.out.que.fr (Fr.set (S := fun k => k = gd) _ _ _ _ rfl) (fun e => by have := HV2.out.que.lo_; have := HGG.out; omega)
                clear c10 f10 c11 hdm
                generalize World.setCell wr _ _ = w10 at HR1 HF10 HQ10 ⊢
                have HFA : Hid (Fr No w10 (w10.alloc (.cells #[.int .i64 (y : Int)] 3))) := Fr.alloc _ _ _
                have HQ11 := Lib.hid (HQ10.out.fr HFA.out id)
                have HLO : Hid (g4 ≤ (w10.alloc (.cells #[.int .i64 (y : Int)] 3)).heap.size) := by have := HQ10.out.lt; have := HQ10.out.lo_; show _ ≤ _; simp; omega
                have HC0 : Hid ((w10.alloc (.cells #[.int .i64 (y : Int)] 3)).cell? ((⟨w10.heap.size, 0, none⟩ : Addr).add 0) = some (.int .i64 (y : Int))) := cell_one_new w10 _ _ 0 _ rfl
                have HLEN : Hid ((h :: l2).length ≤ 65536) := by have := HV2.out.cnt; rw [List.length_cons]; show _ ≤ _; omega
                go_wp2_with ((at_builtin; refine wpList_append_que (W := w10.alloc (.cells #[.int .i64 (y : Int)] 3)) rfl (.tmp 58) (.tmp 60) rfl rfl HQ11.out HLO.out ⟨w10.heap.size, 0, none⟩ 1 y rfl HC0.out HLEN.out ?_; intro g' off' cap' w' h2 h3; have HQ12 := Lib.hid h2; have HF12 := Lib.hid h3; clear h2 h3))
                go_roundw
                case rel =>
                  have hf : Fr (fun k => gd ≤ k) wr w' := HF10.out.trans (HFA.out.any.trans (HF12.out.mono (fun j _ e => by have := HV2.out.que.lo_; have := HGG.out; omega)))
                  refine ⟨k + 1, g', off', cap', l2 ++ [y], by push_cast; rfl, by simp, HK1.out, upI D2 y d, ?_, ?_, ?_, ?_, ?_, ?_, HV2.out.fr.trans hf⟩
                  · have := HQ12.out; rwa [List.cons_append] at this
                  · exact (HR1.out.fr HFA.out id).fr HF12.out (fun e => by have := HV2.out.que.lo_; have := HGG.out; omega)
                  · have := HVE.out; rw [visit, if_pos HY.out] at this; exact this
                  · rw [upI_other HYH.out]; exact HV2.out.dh
                  · intro x
                    by_cases e : x = y
                    · subst e; rw [upI_same]; exact HDU.out
                    · rw [upI_other e]; exact HV2.out.ub x
                  · have h1 := blank_up (n := n) HY.out (show d ≠ -1 by omega) HHH.out.1
                    have h2 := HV2.out.cnt
                    rw [List.length_append, List.length_singleton]; omega
                case measure => exact HMK.out
              · have g1 : (D2 y == -1) = false := by simpa using hy
                have HY := Lib.hid hy
                clear hy hV
                generalize D2 y = z at c10 g1
                go_wp2
                go_roundw
                case rel => exact ⟨k + 1, q2, off2, cap2, l2, by push_cast; rfl, rfl, HK1.out, D2, HV2.out.que, HV2.out.row, by have := HVE.out; rw [visit, if_neg HY.out] at this; exact this, HV2.out.dh, HV2.out.ub, HV2.out.cnt, HV2.out.fr⟩
                case measure => exact HMK.out
            · have hlt : ¬ (k : Int) < L.length := by omega
              have hRV : RV = (D2, l2) := by have := hV.eq; rw [HLN.out k (by omega)] at this; exact this.symm
              have HRV := Lib.hid hRV
              have HNX : Hid (DQ n es t R gd W2 wr (gk - 1) D2 l2) := by
                have h1 := HST.out
                have h2 := HEQ.out
                rw [HRV.out] at h1 h2
                refine ⟨HV2.out.row, h2.2.1, h1.1, ?_, fun x => ?_, HV2.out.fr⟩
                · have h12 : blank n D2 + l2.length = blank n D + l.length := h1.2
                  have := h2.2.2; omega
                · have := HV2.out.ub x; have := h2.1; omega
              have hcap : l2.length + 1 ≤ cap2 := by have := hV.que.len; rwa [List.length_cons] at this
              obtain ⟨c3, rfl⟩ : ∃ c3, cap2 = c3 + 1 := ⟨cap2 - 1, by omega⟩
              clear hk hV hRV
              by_cases hc3 : c3 = 0
              · subst hc3
                have hl2 : l2 = [] := List.length_eq_zero_iff.1 (by omega)
                subst hl2
                clear hcap
                go_wp2
                go_roundg (gk - 1)
                case measure => have := HEQ.out.1; omega
                case rel => exact ⟨q2, off2, 0, [], rfl, HV2.out.que.empty, D2, HNX.out⟩
              · have hq0 : (0 : Int) ≤ l2.length := by omega
                have hq1 : (l2.length : Int) + 1 ≤ c3 + 1 := by omega
                have hc3' : 1 ≤ c3 := by omega
                clear hc3 hcap
                go_wp2
                go_roundg (gk - 1)
                case measure => have := HEQ.out.1; omega
                case rel => exact ⟨q2, off2 + 1, c3, l2, rfl, HV2.out.que.pop, D2, HNX.out⟩
end Go.Proofs.Yteikipiigbjgbaa
