/- follow, cycleOf. -/
import Derived.Test.YteikipiigbjgbaaGq
import Derived.Maps.AppendAt
import Derived.Test.YteikipiigbjgbaaGg
import Derived.Laws.OwnMore
namespace Go.Proofs.Yteikipiigbjgbaa
open Go.RowKit
set_option linter.unusedVariables false

theorem bfs_ub {n : Nat} {es : Es} (hv : Val n es) {t : Nat} : ∀ (f : Nat) (D : Nat → Int) (q : List Nat), Bf n es t D q → (∀ x, D x + f ≤ n) → ∀ x, bfs (ins es) f D q x ≤ n
  | 0, D, q, hb, hu, x => by have := hu x; rw [bfs]; omega
  | f + 1, D, [], hb, hu, x => by have := hu x; rw [bfs]; omega
  | f + 1, D, h :: q, hb, hu, x => by
    have hh := hb.ge h (hb.qn h (List.mem_cons_self ..))
    have V := visit_holds (n := n) (show 0 ≤ D h + 1 by omega) (ins es h) D q (fun x hx => ins_lt hv hx)
    obtain ⟨h1, _⟩ := bf_step hv hb
    refine bfs_ub hv f _ _ h1 (fun y => ?_) x
    have h3 := hu h
    have h4 := hu y
    by_cases e : D y = -1
    · by_cases e2 : (visit (D h + 1) (ins es h) D q).1 y = -1
      · rw [e2]; omega
      · rw [(V.new y e e2).1]; omega
    · rw [V.old y e]; omega
theorem dist_ub {n : Nat} {es : Es} (hv : Val n es) {t : Nat} (ht : t < n) (x : Nat) : dist n es t x ≤ n := by
  refine bfs_ub hv n _ _ (bf_start ht) (fun y => ?_) x
  by_cases e : y = t
  · subst e; rw [start_t]; omega
  · rw [start_o e]; omega
theorem encN_app (l : List Nat) (x : Nat) : encN (l ++ [x]) = encN l ++ [.int .i64 (x : Int)] := by simp [encN]
theorem own_addr {W : World} {lo size : Nat} {t : TypeId} {a : Option Addr} {n m c : Nat} {xs : List Value} (h : W.ownsRow lo t size (.slice a m c) n xs) (hn : 0 < n) : ∃ g, a = some ⟨g, 0, none⟩ := by
  rcases h.2 with ⟨_, h0⟩ | ⟨g, cap, cur, e, _⟩
  · omega
  · injection e with e; exact ⟨g, e⟩
/-- What the loop carries. -/
structure Fo (D : Nat → Int) (es : Es) (R : List Nat) (W wr : World) (f y : Nat) (pre : List Nat) (v : Value) : Prop where
  own : wr.ownsRow W.heap.size 3 1 v (pre.length + 1) (encN (pre ++ [y]))
  eq : pre ++ chain D (outs es) y = R
  ne : D y ≠ -1
  le : (D y).toNat ≤ f
  len : pre.length + f ≤ 300
  fr : Fr No W wr
set_option maxRecDepth 100000 in
set_option maxHeartbeats 4000000 in
theorem follow_any {lo hi g gd n t : Nat} {es : Es} {D : Nat → Int} {W : World} (hL : ListsIn W lo hi g n (outs es)) (hr : RowAt W gd 3 (encPA n D)) (hb : Bf n es t D []) (hu : ∀ x, D x ≤ n) (hv : Val n es) (hn : n ≤ 256) (hm : es.length ≤ 65536) (x : Nat) (hx : D x ≠ -1) :
    Calls Try.prog 35 #[.int .i64 (x : Int), .slice (some ⟨gd, 0, none⟩) n n, .slice (some ⟨g, 0, none⟩) n n] W fun e w' => ∃ v, e = .returned v ∧ w'.ownsRow W.heap.size 3 1 v (chain D (outs es) x).length (encN (chain D (outs es) x)) ∧ Fr No W w' := by
  have HL := Lib.hid hL
  have HR := Lib.hid hr
  have HB := Lib.hid hb
  have HU := Lib.hid hu
  have HV := Lib.hid hv
  have HM := Lib.hid hm
  have HN := Lib.hid hn
  have HX := Lib.hid hx
  have n0 : (n : Int) ≤ 256 := by omega
  have HDU : Hid ((D x).toNat ≤ 256) := by have := hu x; show _ ≤ _; omega
  generalize hRR : chain D (outs es) x = R
  have HEQ : Hid ([] ++ chain D (outs es) x = R) := by show _ = _; rw [List.nil_append]; exact hRR
  clear hRR
  have HO0 : Hid ((W.alloc (.cells #[.int .i64 (x : Int)] 3)).ownsRow W.heap.size 3 1 (.slice (some ⟨W.heap.size, 0, none⟩) 1 1) 1 (encN ([] ++ [x]))) := World.ownsRow_lit W #[.int .i64 (x : Int)] 1 (Nat.le_refl _) (by unfold maxLen; omega) rfl
  have HF0 : Hid (Fr No W (W.alloc (.cells #[.int .i64 (x : Int)] 3))) := Fr.alloc _ _ _
  obtain ⟨z0, hi0, hz0, hz1, hz2⟩ := info_parts info_int
  have HI0 := Lib.hid hi0
  have HZ0 := Lib.hid hz0
  have HZ1 := Lib.hid hz1
  have HZ2 := Lib.hid hz2
  clear hL hr hb hu hv hn hm hx hi0 hz0 hz1 hz2
  go_enter Try.func35, Try.ntmps35
  go_wp2
  go_loopg [0, 7] ((D x).toNat) (fun f v0 v7 wr => ∃ (y : Nat) (pre : List Nat) (a : Option Addr) (c : Nat), v0 = .int .i64 y ∧ v7 = .slice a (pre.length + 1) c ∧ Hid (Fo D es R W wr f y pre (.slice a (pre.length + 1) c)))
  case atStart => exact ⟨x, [], some ⟨W.heap.size, 0, none⟩, 1, rfl, rfl, HO0.out, HEQ.out, HX.out, Nat.le_refl _, by have := HDU.out; simp; omega, HF0.out⟩
  case round =>
    obtain ⟨y, pre, av, cv, rfl, rfl, HFO⟩ := hrel
    have hy : y < n := HB.out.lt y HFO.out.ne
    have y0 : (0 : Int) ≤ y := by omega
    have y1 : (y : Int) < n := by omega
    have HRr := Lib.hid (HR.out.fr HFO.out.fr id)
    have HLr := Lib.hid (HL.out.fr HFO.out.fr (fun _ _ _ => id))
    have c1 : wr.cell? ⟨gd, y, none⟩ = some (.int .i64 (D y)) := by rw [HRr.out.cell, encPA_get _ hy]
    by_cases h0 : 0 < D y
    · obtain ⟨ha, hcp, ch, hnums, _⟩ := HLr.out.at_ y hy
      have HC := Lib.hid (nearest_any hnums HRr.out (fun z hz => outs_lt HV.out hz) (Nat.le_trans (outs_len es y) HM.out) HN.out (hcp := hcp))
      obtain ⟨k1, k2, k3, k4⟩ := HB.out.near_next h0
      have HK4 := Lib.hid k4
      have HK3 : Hid (D (near D (outs es y)).toNat ≠ -1) := by show _ ≠ _; omega
      have HST := Lib.hid (chain_step HB.out h0)
      obtain ⟨z, hz⟩ : ∃ z : Nat, near D (outs es y) = z := ⟨_, (Int.toNat_of_nonneg k1).symm⟩
      rw [hz, Int.toNat_natCast] at HK4 HK3 HST
      rw [hz] at HC
      have HLE := Lib.hid HFO.out.le
      have HF := Lib.hid HFO.out.fr
      have HD0 : Hid (0 < D y) := h0
      clear hy hnums k1 k2 k3 k4 hz
      generalize outs es y = L at HC ch
      generalize hdy : D y = dy at c1 h0
      have HDY := Lib.hid hdy
      clear hdy
      have HFA : Hid (Fr No wr (wr.alloc (.cells #[.int .i64 (z : Int)] 3))) := Fr.alloc _ _ _
      have HO : Hid ((wr.alloc (.cells #[.int .i64 (z : Int)] 3)).ownsRow W.heap.size 3 1 (.slice av (pre.length + 1) cv) (pre.length + 1) (encN (pre ++ [y]))) := own_fr2 HFO.out.own HFA.out (fun _ _ => id)
      have HONE : Hid (∀ u ∈ [Value.int .i64 (z : Int)], u.oneCell' = true) := by show ∀ u ∈ _, _; simp [Value.oneCell']
      have HMAX : Hid (pre.length + 1 + 1 ≤ maxLen) := by have := HFO.out.len; show _ ≤ _; unfold maxLen; omega
      have HBYT : Hid ((pre.length + 1 + 1) * 8 ≤ 140737488355328) := by have := HFO.out.len; show _ ≤ _; omega
      have HSZ : Hid (W.heap.size ≤ (wr.alloc (.cells #[.int .i64 (z : Int)] 3)).heap.size) := by have := HFO.out.fr.size; show _ ≤ _; simp; omega
      go_wp2_with (first
        | (go_at_call 47; refine HC.out.mono ?_; rintro e w2 ⟨rfl, rfl⟩)
        | (at_builtin; refine wpList_append_own (wr.alloc (.cells #[.int .i64 (z : Int)] 3)) rfl (.tmp 21) (.tmp 23) 22 rfl W.heap.size 3 z0 (.int .i64 0) 1 8 Try.underlying22 HI0.out HZ0.out HZ1.out HZ2.out rfl (by decide) (.slice av (pre.length + 1) cv) (pre.length + 1) (encN (pre ++ [y])) rfl HO.out ⟨wr.heap.size, 0, none⟩ 1 1 [.int .i64 (z : Int)] rfl rfl (cell_one_new wr _ _) HONE.out HMAX.out HBYT.out HSZ.out ?_; intro v2 w' h2 h3 h4; obtain ⟨ap, cp, hv2⟩ := own_shape h2; subst hv2; have H2 := Lib.hid h2; have H3 := Lib.hid h3; clear h2 h3 h4))
      go_roundg (gk - 1)
      case measure => have := HLE.out; have := HD0.out; omega
      case rel =>
        refine ⟨z, pre ++ [y], ap, cp, rfl, by simp, ?_, ?_, HK3.out, ?_, ?_, ?_⟩
        · have := H2.out
          rw [encN_app (pre ++ [y]) z]; simpa using this
        · rw [← HFO.out.eq, HST.out]; simp
        · have := HLE.out; have := HK4.out; have := HD0.out; omega
        · have := HFO.out.len; have := HLE.out; have := HD0.out; simp; omega
        · exact (HF.out.trans HFA.out).over (Fr.grown (S := fun k => (Value.slice av (pre.length + 1) cv).ownBlock = some k) H3.out (fun k e => e)) (fun k e => .inr (HFO.out.own.lt k e).1)
    · have HD0 := Lib.hid (chain_end (hs := outs es) h0)
      have h0' : ¬ 0 < D y := h0
      clear h0 hy
      generalize D y = dy at c1 h0'
      go_wp2
      go_ret
      have e : R = pre ++ [y] := by rw [← HFO.out.eq, HD0.out]
      refine ⟨_, rfl, ?_, HFO.out.fr⟩
      rw [e]
      have := HFO.out.own
      rw [List.length_append, List.length_singleton]; exact this

set_option maxRecDepth 100000 in
set_option maxHeartbeats 4000000 in
theorem cycleof_any {lo hi lo2 hi2 gh gw n : Nat} {es : Es} {W : World} (hH : ListsIn W lo hi gh n (outs es)) (hW : ListsIn W lo2 hi2 gw n (ins es)) (hv : Val n es) (hn : n ≤ 256) (hm : es.length ≤ 65536) (t : Nat) (ht : t < n) :
    Calls Try.prog 33 #[.int .i64 (t : Int), .slice (some ⟨gh, 0, none⟩) n n, .slice (some ⟨gw, 0, none⟩) n n] W fun e w' => ∃ v, e = .returned v ∧ w'.ownsRow W.heap.size 3 1 v (cyc n es t).length (encN (cyc n es t)) ∧ Fr No W w' := by
  have HH := Lib.hid hH
  have HC1 := Lib.hid (dist_any hW hv hn hm t ht)
  have HBF := Lib.hid (dist_bf hv ht)
  have HUB : Hid (∀ x, dist n es t x ≤ n) := fun x => dist_ub hv ht x
  have HV := Lib.hid hv
  have HM := Lib.hid hm
  have HN := Lib.hid hn
  have HT := Lib.hid ht
  have t0 : (0 : Int) ≤ t := by omega
  have t1 : (t : Int) < n := by omega
  have n0 : (n : Int) ≤ 256 := by omega
  have HCY : Hid (cyc n es t = if near (dist n es t) (outs es t) = -1 then [] else t :: chain (dist n es t) (outs es) (near (dist n es t) (outs es t)).toNat) := rfl
  generalize cyc n es t = R at HCY ⊢
  generalize dist n es t = D at HC1 HBF HUB HCY
  clear hH hW hv hn hm ht
  go_enter Try.func33, Try.ntmps33
  go_upto_region 2 with (go_at_call 34; refine HC1.out.mono ?_; rintro e W1 ⟨gd, rfl, hr, hg, hf⟩; have HR1 := Lib.hid hr; have HG1 := Lib.hid hg; have HF1 := Lib.hid hf; clear hr hg hf)
  clear HC1
  have HH1 := Lib.hid (HH.out.fr HF1.out (fun _ _ _ => id))
  obtain ⟨ha, hcp, ch, hnums, _⟩ := HH1.out.at_ t HT.out
  have HC := Lib.hid (nearest_any hnums HR1.out (fun z hz => outs_lt HV.out hz) (Nat.le_trans (outs_len es t) HM.out) HN.out (hcp := hcp))
  have HNR := Lib.hid (near_holds D (outs es t))
  clear hnums
  by_cases hne : near D (outs es t) = -1
  · have HRE : Hid (R = []) := by show _ = _; rw [HCY.out, if_pos hne]
    rw [hne] at HC
    clear hne
    generalize outs es t = L at HC ch
    go_wp2_with (go_at_call 47; refine HC.out.mono ?_; rintro e w2 ⟨rfl, rfl⟩)
    go_ret
    exact ⟨_, rfl, by rw [HRE.out]; exact World.ownsRow_nil _ _ _ _, HF1.out⟩
  · obtain ⟨k1, k2, k3, _⟩ := HNR.out.some_ hne
    have HRE : Hid (R = t :: chain D (outs es) (near D (outs es t)).toNat) := by show _ = _; rw [HCY.out, if_neg hne]
    obtain ⟨z, hz⟩ : ∃ z : Nat, near D (outs es t) = z := ⟨_, (Int.toNat_of_nonneg k1).symm⟩
    rw [hz, Int.toNat_natCast] at k3 HRE
    rw [hz] at HC
    have z0 : (0 : Int) ≤ z := by omega
    have gz : ((z : Int) == -1) = false := by rw [beq_eq_false_iff_ne]; omega
    have HK3 := Lib.hid k3
    clear hne k1 k2 k3 hz HNR
    generalize outs es t = L at HC ch
    have HFA : Hid (Fr No W1 (W1.alloc (.cells #[.int .i64 (t : Int)] 3))) := Fr.alloc _ _ _
    have HCF := Lib.hid (follow_any (HH1.out.fr HFA.out (fun _ _ _ => id)) (HR1.out.fr HFA.out id) HBF.out HUB.out HV.out HN.out HM.out z HK3.out)
    have HO0 : Hid ((W1.alloc (.cells #[.int .i64 (t : Int)] 3)).ownsRow W1.heap.size 3 1 (.slice (some ⟨W1.heap.size, 0, none⟩) 1 1) 1 (encN [t])) := World.ownsRow_lit W1 #[.int .i64 (t : Int)] 1 (Nat.le_refl _) (by unfold maxLen; omega) rfl
    have HLC : Hid ((chain D (outs es) z).length ≤ 257) := by
      have aux : ∀ f y, (foll D (outs es) f y).length ≤ f + 1 := fun f => by
        induction f with
        | zero => intro y; simp [foll]
        | succ f ih => intro y; rw [foll]; split <;> simp; exact ih _
      have := aux (D z).toNat z
      have := HUB.out z
      have := HN.out
      show (foll D (outs es) (D z).toNat z).length ≤ _
      omega
    have HCN : Hid (0 < (chain D (outs es) z).length) := List.length_pos_iff.2 (foll_ne _ _ _ _)
    generalize chain D (outs es) z = K at HCF HRE HLC HCN
    obtain ⟨i0, hi0, hz0, hz1, hz2⟩ := info_parts info_int
    have HI0 := Lib.hid hi0
    have HZ0 := Lib.hid hz0
    have HZ1 := Lib.hid hz1
    have HZ2 := Lib.hid hz2
    clear hi0 hz0 hz1 hz2
    have HONE : Hid (∀ u ∈ encN K, u.oneCell' = true) := by
      intro u hu
      obtain ⟨y, _, rfl⟩ := List.mem_map.1 hu; rfl
    have HMAX : Hid (1 + K.length ≤ maxLen) := by have := HLC.out; show _ ≤ _; unfold maxLen; omega
    have HBYT : Hid ((1 + K.length) * 8 ≤ 140737488355328) := by have := HLC.out; show _ ≤ _; omega
    have HLE : Hid ((encN K).length = K.length * 1) := by show _ = _; rw [encN_len]; omega
    go_wp2_with (first
      | (go_at_call 47; refine HC.out.mono ?_; rintro e w2 ⟨rfl, rfl⟩)
      | (go_at_call 35; refine HCF.out.mono ?_; rintro e W3 ⟨v, rfl, ho, hf⟩; obtain ⟨av, cv, hv2⟩ := own_shape ho; subst hv2; have HO3 := Lib.hid ho; have HF3 := Lib.hid hf; clear ho hf; obtain ⟨gv, hgv⟩ := own_addr HO3.out HCN.out; subst hgv; have HN3 : Hid (∀ j u, (encN K)[j]? = some u → W3.cell? ((⟨gv, 0, none⟩ : Addr).add j) = some u) := (HO3.out.cells (g := gv) rfl); have HO4 : Hid (W3.ownsRow W1.heap.size 3 1 (.slice (some ⟨W1.heap.size, 0, none⟩) 1 1) 1 (encN [t])) := (own_fr2 HO0.out HF3.out (fun _ _ => id)); have HSZ : Hid (W1.heap.size ≤ W3.heap.size) := (Nat.le_trans HFA.out.size HF3.out.size))
      | (at_builtin; refine wpList_append_own W3 rfl (.tmp 21) (.tmp 25) 22 rfl W1.heap.size 3 i0 (.int .i64 0) 1 8 Try.underlying22 HI0.out HZ0.out HZ1.out HZ2.out rfl (by decide) (.slice (some ⟨W1.heap.size, 0, none⟩) 1 1) 1 (encN [t]) rfl HO4.out ⟨gv, 0, none⟩ K.length cv (encN K) rfl HLE.out HN3.out HONE.out HMAX.out HBYT.out HSZ.out ?_; intro v2 w' h2 h3 h4; have H2 := Lib.hid h2; have H3 := Lib.hid h3; clear h2 h3 h4))
    go_ret
    refine ⟨_, rfl, ?_, (HF1.out.trans (HFA.out.trans HF3.out)).over (Fr.grown (S := fun k => k = W1.heap.size) H3.out (fun k e => by injection e with e; exact e.symm)) (fun k e => .inr (by have := HF1.out.size; omega))⟩
    rw [HRE.out, List.length_cons, Nat.add_comm]
    exact own_base H2.out HF1.out.size
end Go.Proofs.Yteikipiigbjgbaa
