/- Package sched: ranked, where nothing differs: the list of candidates. -/
import Derived.Test.YtjaaljcdaamcjaaGreatDp
import Derived.Test.YtjaaljcdaamcjaaGreatYp
import Derived.Deep.CutBlock
import Derived.Laws.MakeOwn
import Derived.Deep.CutRange
namespace Go.Proofs.YtjaaljcdaamcjaaGreat
open Go.RowKit Go.Proofs.YtjaaljcdaamcjaaGreat.Pa
set_option linter.unusedVariables false

theorem own_shape {W : World} {lo size : Nat} {t : TypeId} {v : Value} {n : Nat} {xs : List Value} (h : W.ownsRow lo t size v n xs) : ∃ a c, v = .slice a n c := by
  rcases h.2 with ⟨rfl, h0⟩ | ⟨g, cap, cur, rfl, _⟩
  · exact ⟨_, _, by rw [h0]⟩
  · exact ⟨_, _, rfl⟩
theorem own_fr2 {W W' : World} {S : Nat → Prop} {base size : Nat} {t : TypeId} {v : Value} {n : Nat} {xs : List Value} (h : W.ownsRow base t size v n xs) (hf : Fr S W W') (hS : ∀ k, v.ownBlock = some k → ¬ S k) : W'.ownsRow base t size v n xs := by
  refine ⟨h.1, h.2.imp id fun ⟨g, cap, cur, h1, h2, h3, r⟩ => ⟨g, cap, cur, h1, h2, ?_, r⟩⟩
  rw [hf.block g (Array.getElem?_eq_some_iff.1 h3).1 (hS g (by rw [h1]; rfl))]; exact h3
theorem own_blk {g n c k : Nat} (e : (Value.slice (some ⟨g, 0, none⟩) n c).ownBlock = some k) : g = k := by simpa [Value.ownBlock] using e
/-- The candidate of a thread at a time. -/
def cdOf (C : CF) (L : List Ch) (n k : Nat) (en : Nat → Option En) (t : Nat) : Cd :=
  match en t with
  | some e => ⟨t, e.last, e.par.msk, hasBu C L n k, e.pri, k⟩
  | none => ⟨t, 0, 0, false, 0, k⟩
def Even (s : ST) (en : Nat → Option En) (k : Nat) (P0 : Int) (ids : List Nat) : Prop := ∀ t ∈ ids, ∃ b e, t < 256 ∧ s.th t = some b ∧ en t = some e ∧ e.par.prt = k ∧ e.par.cri = false ∧ e.pri = P0
theorem even_flat {s : ST} {en : Nat → Option En} {k : Nat} {P0 : Int} {ids : List Nat} (h : Even s en k P0 ids) (C : CF) (L : List Ch) (n : Nat) : ∀ x ∈ ids.map (cdOf C L n k en), ∀ y ∈ ids.map (cdOf C L n k en), Flat k x y := by
  intro x hx y hy
  obtain ⟨t, ht, rfl⟩ := List.mem_map.1 hx
  obtain ⟨u, hu, rfl⟩ := List.mem_map.1 hy
  obtain ⟨b, e, _, _, h1, h2, h3, h4⟩ := h t ht
  obtain ⟨b', e', _, _, g1, g2, g3, g4⟩ := h u hu
  unfold cdOf
  rw [h1, g1]
  exact ⟨rfl, by show e.pri = e'.pri; rw [h4, g4], rfl, rfl⟩
/-- Block R holds the first k of these candidates, as ranked threads. -/
def Rk (W : World) (R m : Nat) (cds : List Cd) (k : Nat) : Prop := ∃ cs, RowAt W R 136 cs ∧ cs.size = m * 3 ∧ ∀ i c, i < k → cds[i]? = some c → cs[i * 3]? = some (.int .i64 (c.num : Int)) ∧ cs[i * 3 + 1]? = some (.int .i64 c.last) ∧ cs[i * 3 + 2]? = some (.int .i64 c.msk)
theorem Rk.fr {W W' : World} {R m k : Nat} {cds : List Cd} {X : Nat → Prop} (h : Rk W R m cds k) (hf : Fr X W W') (hne : ¬ X R) : Rk W' R m cds k := by
  obtain ⟨cs, h1, h2, h3⟩ := h; exact ⟨cs, h1.fr hf hne, h2, h3⟩
theorem Rk.step {W : World} {R m k : Nat} {cds : List Cd} {c : Cd} (h : Rk W R m cds k) (hc : cds[k]? = some c) (hk : k < m) : Rk (((W.setCell ⟨R, k * 3, none⟩ (.int .i64 (c.num : Int))).setCell ⟨R, k * 3 + 1, none⟩ (.int .i64 c.last)).setCell ⟨R, k * 3 + 2, none⟩ (.int .i64 c.msk)) R m cds (k + 1) := by
  obtain ⟨cs, h1, h2, h3⟩ := h
  refine ⟨_, ((h1.set _ _).set _ _).set _ _, by simp [h2], fun i c' hi hc' => ?_⟩
  simp only [Array.getElem?_setIfInBounds, Array.size_setIfInBounds, h2]
  by_cases e : i = k
  · subst e
    rw [hc] at hc'
    injection hc' with hc'
    subst hc'
    have a0 : i * 3 < m * 3 := by omega
    have a1 : i * 3 + 1 < m * 3 := by omega
    have a2 : i * 3 + 2 < m * 3 := by omega
    simp [a0, a1, a2]
  · have hi' : i < k := by omega
    obtain ⟨g1, g2, g3⟩ := h3 i c' hi' hc'
    have b1 : ¬ (k * 3 = i * 3) := by omega
    have b2 : ¬ (k * 3 + 1 = i * 3) := by omega
    have b3 : ¬ (k * 3 + 2 = i * 3) := by omega
    have b4 : ¬ (k * 3 = i * 3 + 1) := by omega
    have b5 : ¬ (k * 3 + 1 = i * 3 + 1) := by omega
    have b6 : ¬ (k * 3 + 2 = i * 3 + 1) := by omega
    have b7 : ¬ (k * 3 = i * 3 + 2) := by omega
    have b8 : ¬ (k * 3 + 1 = i * 3 + 2) := by omega
    have b9 : ¬ (k * 3 + 2 = i * 3 + 2) := by omega
    rw [if_neg b3, if_neg b2, if_neg b1, if_neg b6, if_neg b5, if_neg b4, if_neg b9, if_neg b8, if_neg b7]
    exact ⟨g1, g2, g3⟩
theorem info_rk : (Tryz.prog.info? 136).map (fun i => (i.zero, i.size, i.bytes)) = some (some (.agg #[.int .i64 0, .int .i64 0, .int .i64 0]), 3, 24) := by kernel_rfl
theorem make_ranked (n : Nat) (hn : n ≤ 65536) (w : World) : (Instr.makeSlice 118 (.int .i64 (n : Int)) (.int .i64 (n : Int))).run Tryz.prog w = .ok (.slice (some ⟨w.heap.size, 0, none⟩) n n) (w.alloc (.cells (madeCells #[.int .i64 0, .int .i64 0, .int .i64 0] (n * 3)) 136)) := by
  obtain ⟨i, h1, h2, h3, h4⟩ := info_parts info_rk
  have := run_make (P := Tryz.prog) w 118 136 i _ Tryz.underlying118 h1 h2 .i64 .i64 (n : Int) (n : Int) (by omega) (by omega) (by rw [h4]; omega) (by omega)
  rw [h3] at this
  simp at this
  exact this
section
variable {S : Nat} {s : ST} {C : CF} {T : Nat} {L : List Ch} {ls : Nat → List Nat} {mk : Nat → Nat} {en : Nat → Option En} {W W' : World}
set_option maxRecDepth 100000 in
set_option maxHeartbeats 4000000 in
theorem ranked_flat (h : SI S s C T L ls mk en W) (n k : Nat) (P0 : Int) (h0 : T ≤ n) (h1 : n ≤ 1099511627776) (bu : BudOk C) (hk : k < C.np) (ids : List Nat) (hids : Rd.order ls = ids) (hl : ids.length < 20) (hpos : 0 < ids.length) (hev : Even s en k P0 ids) :
    Calls Tryz.prog 52 #[.pointer (some ⟨S, 0, none⟩), .int .i64 (n : Int)] W fun e w' => ∃ R, e = .returned (.slice (some ⟨R, 0, none⟩) ids.length ids.length) ∧ W.heap.size ≤ R ∧ Rk w' R ids.length (ids.map (cdOf C L n k en)) ids.length ∧ (∃ T', T' ≤ n ∧ SI S s C T' L ls mk en w') ∧ Fr (fun j => j = s.mb) W w' := by
  have HS := Lib.hid h
  have HH1 := Lib.hid h1
  have HBU := Lib.hid bu
  have HKK := Lib.hid hk
  have HEV := Lib.hid hev
  have HL := Lib.hid hl
  have HPS := Lib.hid hpos
  have HT0 := Lib.hid h0
  have l20 : (ids.length : Int) < 20 := by omega
  have hmf := hmf_any
  obtain ⟨q, hq1, hq2, hq3⟩ := h.que
  have HOR : Hid (∀ W2, Rd.QAt W2 s.qb q → Calls Tryz.prog 97 #[.pointer (some ⟨s.qb, 0, none⟩)] W2 fun e w' =>
    e = .returned (.slice (some ⟨W2.heap.size, 0, none⟩) ids.length ids.length) ∧ w'.ownsRow W2.heap.size 3 1 (.slice (some ⟨W2.heap.size, 0, none⟩) ids.length ids.length) ids.length (Rd.encI ids) ∧ W2.grownBy w' none) := fun W2 hw => by
      have := Rd.order_in s.qb q ls hq2 W2 hw
      rw [hids] at this
      exact this
  have HQ1 := Lib.hid hq1
  clear h h0 h1 bu hk hids hl hpos hev hq1 hq2 hq3
  go_enter Tryz.func52, Tryz.ntmps52
  go_upto_region 1 with (fail)
  have HF1 : Hid (Fr Non W ((W.alloc (.cells #[.pointer (some ⟨S, 0, none⟩)] 27)).alloc (.cells #[.int .i64 (n : Int)] 2))) := frA (frA (Fr.refl _ _))
  have HX1 : Hid (RowAt ((W.alloc (.cells #[.pointer (some ⟨S, 0, none⟩)] 27)).alloc (.cells #[.int .i64 (n : Int)] 2)) W.heap.size 27 #[.pointer (some ⟨S, 0, none⟩)]) := (RowAt.new W _ _).fr (Fr.alloc Non _ _) id
  have HN1 : Hid (RowAt ((W.alloc (.cells #[.pointer (some ⟨S, 0, none⟩)] 27)).alloc (.cells #[.int .i64 (n : Int)] 2)) (W.heap.size + 1) 2 #[.int .i64 (n : Int)]) := by
    have := RowAt.new (W.alloc (.cells #[.pointer (some ⟨S, 0, none⟩)] 27)) 2 #[.int .i64 (n : Int)]
    rw [show (W.alloc (.cells #[.pointer (some ⟨S, 0, none⟩)] 27)).heap.size = W.heap.size + 1 from by simp] at this
    exact this
  generalize World.alloc (World.alloc W _) _ = W1 at HF1 HX1 HN1 ⊢
  obtain ⟨xs, hxs⟩ : ∃ xs, W.heap.size = xs := ⟨_, rfl⟩
  have HXS := Lib.hid hxs
  rw [hxs] at HX1 HN1 ⊢
  clear hxs
  generalize hxn : xs + 1 = xn at HN1 ⊢
  have HXN := Lib.hid hxn
  clear hxn
  have HS1 := Lib.hid (HS.out.fr HF1.out (fun _ _ e => e))
  have c0 : W1.cell? ⟨xs, 0, none⟩ = some (.pointer (some ⟨S, 0, none⟩)) := HX1.out.cell 0
  have c1 : W1.cell? ⟨S, 259, none⟩ = some (.pointer (some ⟨s.qb, 0, none⟩)) := HS1.out.row.qb
  have HQ2 : Hid (Rd.QAt W1 s.qb q) := (show RowAt W s.qb _ _ from HQ1.out).fr HF1.out id
  go_upto_region 3 with (go_at_call 97; refine (HOR.out _ HQ2.out).mono ?_; rintro e W2 ⟨rfl, ho, hg⟩; have HO := Lib.hid ho; have HG : Hid (Fr Non W1 W2) := fr_grown hg (fun _ e => (nomatch e)); clear ho hg)
  obtain ⟨it, ht0, ht1, ht2, ht3⟩ := info_parts info_cd
  have HT1 := Lib.hid ht0
  have HT2 := Lib.hid ht1
  have HT3 := Lib.hid ht2
  have HT4 := Lib.hid ht3
  clear ht0 ht1 ht2 ht3 c0 c1
  have HS2 := Lib.hid (HS1.out.fr HG.out (fun _ _ e => e))
  have HX2 := Lib.hid (HX1.out.fr HG.out id)
  have HN2 := Lib.hid (HN1.out.fr HG.out id)
  have HB : Hid (W1.heap.size < W2.heap.size) := (HO.out.lt _ rfl).2
  have HXB : Hid (xs < W1.heap.size ∧ xn < W1.heap.size ∧ s.mb < xs ∧ S < xs) := by
    have := HX1.out.lt; have := HN1.out.lt; have := HS.out.met.lt; have := HS.out.row.lt; have := HXS.out; exact ⟨by omega, by omega, by omega, by omega⟩
  obtain ⟨B, hB⟩ : ∃ B, W1.heap.size = B := ⟨_, rfl⟩
  have HBB := Lib.hid hB
  rw [hB] at HO HB HXB ⊢
  clear hB
  obtain ⟨z, hz⟩ : ∃ z, W2.heap.size = z := ⟨_, rfl⟩
  have HZZ := Lib.hid hz
  rw [hz] at HB
  clear hz
  go_loopw [5, 17] (fun v5 vi wr => ∃ i : Nat, vi = .int .i64 (i : Int) ∧ (i : Int) ≤ ids.length ∧ Hid ((∃ T', T' ≤ n ∧ SI S s C T' L ls mk en wr) ∧ Fr (fun j => j = s.mb ∨ z ≤ j) W2 wr ∧ wr.ownsRow z 177 6 v5 i (encC ((ids.take i).map (cdOf C L n k en))))) (fun _ vi _ => ids.length - (intOf vi).toNat)
  case atStart => exact ⟨0, rfl, by omega, ⟨T, HT0.out, HS2.out⟩, Fr.refl _ _, World.ownsRow_nil _ _ _ _⟩
  case round =>
    obtain ⟨i, rfl, i1, HI⟩ := hrel
    have i0 : (0 : Int) ≤ i := by omega
    obtain ⟨a5, c5, hv5⟩ := own_shape HI.out.2.2
    subst hv5
    by_cases hlt : (i : Int) < ids.length
    · have HMS : Hid (ids.length - (intOf (Value.int IntKind.i64 ((i : Int) + 1))).toNat < ids.length - (intOf (Value.int IntKind.i64 (i : Int))).toNat) := by
        show _ < _
        simp only [intOf]
        omega
      have hin : i < ids.length := by omega
      obtain ⟨T', hT', hsi⟩ := HI.out.1
      have HSI := Lib.hid hsi
      obtain ⟨b, e, ht, hb, he, hp, hc, hpri⟩ := HEV.out _ (List.getElem_mem hin)
      have HCA : Hid (∀ w, SI S s C T' L ls mk en w → Calls Tryz.prog 98 #[.pointer (some ⟨S, 0, none⟩), .pointer (some ⟨b, 0, none⟩), .int .i64 (n : Int)] w fun r w' => r = .returned (.agg (Cd.mk ids[i] e.last e.par.msk (hasBu C L n k) e.pri k).cells) ∧ SI S s C n L ls mk en w' ∧ Fr (fun j => j = s.mb) w w') := fun w qq => candidate_ok qq ids[i] b hb he n k hT' HH1.out HKK.out hp hc
      have HCD : Hid (cdOf C L n k en ids[i] = Cd.mk ids[i] e.last e.par.msk (hasBu C L n k) e.pri k) := by
        show _ = _
        unfold cdOf
        rw [he]
      have HTK : Hid (ids.take (i + 1) = ids.take i ++ [ids[i]]) := List.take_succ_eq_append_getElem hin
      have d0 : wr.cell? ⟨B, i, none⟩ = some (.int .i64 ((ids[i] : Nat) : Int)) := by
        have q2 := own_fr2 HO.out HI.out.2.1 (fun kk ee => by have e2 := own_blk ee; have := HB.out; have := HXB.out; omega)
        have := q2.cells (g := B) rfl i (.int .i64 ((ids[i] : Nat) : Int)) (by simp [Rd.encI, hin])
        rw [Addr.add_mid, Nat.zero_add] at this
        exact this
      have HK3 : Hid (∀ w, Fr (fun j => j = s.mb ∨ z ≤ j) wr w → w.cell? ⟨xs, 0, none⟩ = some (.pointer (some ⟨S, 0, none⟩)) ∧ w.cell? ⟨S, 3 + ids[i], none⟩ = some (.pointer (some ⟨b, 0, none⟩)) ∧ w.cell? ⟨xn, 0, none⟩ = some (.int .i64 (n : Int))) := fun w f => by
        have ff := HI.out.2.1.trans f
        have g := HXB.out
        have g2 := HB.out
        have g3 := HS.out.ne.1
        refine ⟨(HX2.out.fr ff (by show ¬ (_ ∨ _); omega)).cell 0, ?_, (HN2.out.fr ff (by show ¬ (_ ∨ _); have := HXN.out; omega)).cell 0⟩
        have := (HS2.out.row.fr ff (by show ¬ (_ ∨ _); omega)).th ids[i] ht
        rw [hb] at this
        exact this
      have HIX : Hid (i < ids.length) := hin
      have t1 : (ids[i] : Int) < 256 := by omega
      clear hsi hb he hp hc hpri hT'
      generalize ids[i] = t at HCA HCD HTK d0 HK3 ht t1
      have t0 : (0 : Int) ≤ t := by omega
      clear hin ht
      go_upto_region 5 with (fail)
      have HON : Hid (∀ w, Fr (fun j => j = s.mb) wr w → w.ownsRow z 177 6 (.slice a5 i c5) i (encC ((ids.take i).map (cdOf C L n k en)))) := fun w f => own_fr2 HI.out.2.2 f (fun kk ee => by have := (HI.out.2.2.lt kk ee).1; have := HXB.out; have := HB.out; omega)
      have HMAX : Hid (i + 1 ≤ maxLen ∧ (i + 1) * 48 ≤ 140737488355328) := ⟨by have := HIX.out; unfold maxLen; omega, by have := HIX.out; omega⟩
      have HZW : Hid (z ≤ wr.heap.size) := by have := HI.out.2.1.size; have := HZZ.out; show _ ≤ _; omega
      have HONE := Lib.hid (cd_one (Cd.mk t e.last e.par.msk (hasBu C L n k) e.pri k))
      unfold Cd.cells at HCA HONE
      go_region_held_law (fun w' => w'.cell? ⟨xs, 0, none⟩ = some (.pointer (some ⟨S, 0, none⟩)) ∧ w'.cell? ⟨S, 3 + t, none⟩ = some (.pointer (some ⟨b, 0, none⟩)) ∧ w'.cell? ⟨xn, 0, none⟩ = some (.int .i64 (n : Int)))
        (first | (exact HK3.out _ (frD (Fr.refl _ _))) | (exact HK3.out _ FA.out) | (exact HK3.out _ (F3.out.mono (fun _ _ e => .inl e))) | (exact HK3.out _ (frA (F3.out.mono (fun _ _ e => .inl e)))) | (exact HK3.out _ (frD (frA (F3.out.mono (fun _ _ e => .inl e))))))
        (first
          | (go_at_call 98; refine (HCA.out (World.drew wr) (HSI.out.fr (Fr.drew Non _) (fun _ _ e => e))).mono ?_; rintro r W3 ⟨rfl, hs3, f3⟩; have F3 : Hid (Fr (fun j => j = s.mb) wr W3) := (frD (Fr.refl _ _)).trans f3; have HS3 := Lib.hid hs3; clear f3 hs3)
          | (refine step_append_lies (W3.alloc (.cells #[.int .i64 (t : Int), .int .i64 e.last, .int .i64 e.par.msk, .bool (hasBu C L n k), .int .i64 e.pri, .int .i64 (k : Int)] 177)) rfl (.tmp 21) (.tmp 31) 174 rfl z 177 it (.agg cd0) 6 48 Tryz.underlying174 HT1.out HT2.out HT3.out HT4.out rfl (by decide) (.slice a5 i c5) i (encC ((ids.take i).map (cdOf C L n k en))) rfl ((HON.out _ F3.out).alloc _) ⟨W3.heap.size, 0, none⟩ 1 1 [.int .i64 (t : Int), .int .i64 e.last, .int .i64 e.par.msk, .bool (hasBu C L n k), .int .i64 e.pri, .int .i64 (k : Int)] rfl rfl (fun j u hu => World.news_of_block (cs := #[.int .i64 (t : Int), .int .i64 e.last, .int .i64 e.par.msk, .bool (hasBu C L n k), .int .i64 e.pri, .int .i64 (k : Int)]) (t := 177) (fr := (0, 0)) (RowAt.new W3 _ _) j u hu) HONE.out (by decide) HMAX.out.1 HMAX.out.2 (by have := HZW.out; have := F3.out.size; simp; omega) _ rfl ?_; intro gg cap' w1 hown hgrow hat hlt2; have FA : Hid (Fr (fun j => j = s.mb ∨ z ≤ j) wr w1) := (frA (F3.out.mono (fun _ _ e => .inl e))).trans (Fr.grown hgrow (fun kk ee => .inr (HI.out.2.2.lt kk ee).1)); have FB : Hid (Fr (fun j => z ≤ j) W3 w1) := (frA (Fr.refl _ _)).trans (Fr.grown hgrow (fun kk ee => (HI.out.2.2.lt kk ee).1)); have HOA := Lib.hid hown; clear hown hgrow hat hlt2))
      go_wp2
      go_roundw
      case rel =>
        refine ⟨i + 1, by push_cast; rfl, by have := HIX.out; push_cast; omega, ⟨n, Nat.le_refl _, HS3.out.fr FB.out (fun kk hk2 hk3 => ?_)⟩, HI.out.2.1.trans FA.out, ?_⟩
        · have g1 := HS.out.own_lt hk2
          have g2 := HXS.out
          have g3 := HXB.out
          have g4 := HB.out
          omega
        · rw [HTK.out, List.map_append, encC_app, List.map_singleton, HCD.out]
          exact HOA.out
      case measure => exact HMS.out
    · have hil : i = ids.length := by omega
      subst hil
      have HOE := HI.out.2.2
      rw [List.take_length] at HOE
      have HOX := Lib.hid HOE
      obtain ⟨T', hT', hsi⟩ := HI.out.1
      have HSI := Lib.hid hsi
      have HTT := Lib.hid hT'
      have HFW := Lib.hid HI.out.2.1
      clear HI HOE hsi hT' hlt i1
      obtain ⟨d, hv5⟩ : ∃ d, a5 = some ⟨d, 0, none⟩ := by
        rcases HOX.out.2 with ⟨_, h⟩ | ⟨g, cap, cur, h, _⟩
        · have := HPS.out; omega
        · injection h with h; exact ⟨g, h⟩
      subst hv5
      have HDA := Lib.hid (dat_of_own HOX.out)
      have HDZ : Hid (z ≤ d) := (HOX.out.lt d rfl).1
      have HZW : Hid (z ≤ wr.heap.size) := by have := HFW.out.size; have := HZZ.out; show _ ≤ _; omega
      have HG3 : Hid (Fr Non wr (wr.alloc (.cells #[.func (.func 100) #[] #[], .func (.func 101) #[] #[], .func (.func 102) #[] #[.pointer (some ⟨xs, 0, none⟩), .pointer (some ⟨xn, 0, none⟩)]] 180))) := frA (Fr.refl _ _)
      have hnz : ∀ j, j < z → j ≠ s.mb → ¬ (j = s.mb ∨ z ≤ j) := fun j h1 h2 h3 => by omega
      have HSB := Lib.hid (sortby_flat (W := wr.alloc (.cells #[.func (.func 100) #[] #[], .func (.func 101) #[] #[], .func (.func 102) #[] #[.pointer (some ⟨xs, 0, none⟩), .pointer (some ⟨xn, 0, none⟩)]] 180)) (g := wr.heap.size) (HSI.out.fr HG3.out (fun _ _ e => e)) HTT.out ((HX2.out.fr HFW.out (hnz _ (by have := HXB.out; have := HB.out; omega) (by have := HXB.out; omega))).fr HG3.out id) ((HN2.out.fr HFW.out (hnz _ (by have := HXB.out; have := HB.out; omega) (by have := HXB.out; have := HXN.out; omega))).fr HG3.out id) (RowAt.new _ _ _) ⟨by have := HXB.out; omega, by have := HXB.out; have := HXN.out; omega, by have := HXB.out; have := HB.out; have := HZW.out; omega⟩ HBU.out HH1.out d c5 k (ids.map (cdOf C L n k en)) (HDA.out.fr HG3.out id) (by have := HXB.out; have := HB.out; have := HDZ.out; omega) HKK.out (by rw [List.length_map]; exact HL.out) (even_flat HEV.out C L n))
      rw [List.length_map] at HSB
      clear hnz
      have hmk := make_ranked ids.length (by have := HL.out; omega)
      go_upto_region 8 with (go_at_call 99; refine HSB.out.mono ?_; rintro e W5 ⟨⟨v, rfl⟩, ⟨T5, hT5, hs5⟩, f5⟩; have HS5 := Lib.hid hs5; have HT5 := Lib.hid hT5; have F5 : Hid (Fr (fun j => j = s.mb) wr W5) := (HG3.out.mono (fun _ _ e => (nomatch e))).trans f5; clear hs5 hT5 f5)
      go_upto_region 10 with (fail)
      have HD5 := Lib.hid (HDA.out.fr F5.out (by show ¬ (d = s.mb); have := HXB.out; have := HB.out; have := HDZ.out; omega))
      have HLM : Hid ((ids.map (cdOf C L n k en)).length = ids.length) := List.length_map ..
      obtain ⟨cds, hcds⟩ : ∃ cds, ids.map (cdOf C L n k en) = cds := ⟨_, rfl⟩
      have HCDS := Lib.hid hcds
      rw [hcds] at HD5 HLM
      clear hcds
      have HF6 : Hid (Fr Non W5 (W5.alloc (.cells (madeCells #[.int .i64 0, .int .i64 0, .int .i64 0] (ids.length * 3)) 136))) := frA (Fr.refl _ _)
      have HR6 : Hid (Rk (W5.alloc (.cells (madeCells #[.int .i64 0, .int .i64 0, .int .i64 0] (ids.length * 3)) 136)) W5.heap.size ids.length cds 0) := ⟨_, RowAt.new _ _ _, size_madeCells _ _, fun i c h => absurd h (Nat.not_lt_zero _)⟩
      clear hmk HSB
      generalize W5.alloc _ = W6 at HF6 HR6 ⊢
      obtain ⟨R, hR⟩ : ∃ R, W5.heap.size = R := ⟨_, rfl⟩
      have HRR := Lib.hid hR
      rw [hR] at HR6 ⊢
      clear hR
      have HDR : Hid (d < R) := by have := HD5.out.1; have := HRR.out; show _ < _; omega
      have HD6 := Lib.hid (HD5.out.fr HF6.out id)
      go_loopw [43] (fun vi w2 => ∃ i : Nat, vi = .int .i64 (i : Int) ∧ (i : Int) ≤ ids.length ∧ Hid (Rk w2 R ids.length cds i ∧ Fr (fun j => j = R) W6 w2)) (fun vi _ => ids.length - (intOf vi).toNat)
      case atStart => exact ⟨0, rfl, by omega, HR6.out, Fr.refl _ _⟩
      case round =>
        obtain ⟨i, rfl, i1, HI⟩ := hrel
        have i0 : (0 : Int) ≤ i := by omega
        by_cases hlt : (i : Int) < ids.length
        · have HMS : Hid (ids.length - (intOf (Value.int IntKind.i64 ((i : Int) + 1))).toNat < ids.length - (intOf (Value.int IntKind.i64 (i : Int))).toNat) := by
            show _ < _
            simp only [intOf]
            omega
          have hin : i < cds.length := by have := HLM.out; omega
          have hc := List.getElem?_eq_getElem hin
          have HDI := HD6.out.fr HI.out.2 (by show ¬ (d = R); have := HDR.out; omega)
          have HDJ := HDI.2 i _ hc
          have HST : Hid (∀ w, Rk w R ids.length cds i → Rk (((w.setCell ⟨R, i * 3, none⟩ (.int .i64 ((cds[i]).num : Int))).setCell ⟨R, i * 3 + 1, none⟩ (.int .i64 (cds[i]).last)).setCell ⟨R, i * 3 + 2, none⟩ (.int .i64 (cds[i]).msk)) R ids.length cds (i + 1)) := fun w hw => Rk.step hw hc (by omega)
          generalize cds[i] = c at hc HDJ HST
          obtain ⟨m1, m2, m3, m4, m5, m6⟩ := c
          unfold Cd.cells at HDJ
          have d0 : wr.cell? ⟨d, i * 6, none⟩ = some (.int .i64 (m1 : Int)) := HDJ 0 _ rfl
          have d1 : wr.cell? ⟨d, i * 6 + 1, none⟩ = some (.int .i64 m2) := HDJ 1 _ rfl
          have d2 : wr.cell? ⟨d, i * 6 + 2, none⟩ = some (.int .i64 m3) := HDJ 2 _ rfl
          have d3 : wr.cell? ⟨d, i * 6 + 3, none⟩ = some (.bool m4) := HDJ 3 _ rfl
          have d4 : wr.cell? ⟨d, i * 6 + 4, none⟩ = some (.int .i64 m5) := HDJ 4 _ rfl
          have d5 : wr.cell? ⟨d, i * 6 + 5, none⟩ = some (.int .i64 (m6 : Int)) := HDJ 5 _ rfl
          clear hin hc HDI HDJ
          go_upto_region 12 with (fail)
          have HF7 : Hid (Fr Non wr (wr.alloc (.cells #[.int .i64 (m1 : Int), .int .i64 m2, .int .i64 m3, .bool m4, .int .i64 m5, .int .i64 (m6 : Int)] 177))) := frA (Fr.refl _ _)
          have HY7 : Hid (RowAt (wr.alloc (.cells #[.int .i64 (m1 : Int), .int .i64 m2, .int .i64 m3, .bool m4, .int .i64 m5, .int .i64 (m6 : Int)] 177)) wr.heap.size 177 #[.int .i64 (m1 : Int), .int .i64 m2, .int .i64 m3, .bool m4, .int .i64 m5, .int .i64 (m6 : Int)]) := RowAt.new _ _ _
          have HRW : Hid (R < wr.heap.size) := by obtain ⟨cs, hr, _⟩ := HI.out.1; exact hr.lt
          clear d0 d1 d2 d3 d4 d5
          generalize wr.alloc _ = W7 at HF7 HY7 ⊢
          obtain ⟨y, hy⟩ : ∃ y, wr.heap.size = y := ⟨_, rfl⟩
          rw [hy] at HY7 HRW ⊢
          clear hy
          have HK7 := Lib.hid (HI.out.1.fr HF7.out id)
          have e0 : W7.cell? ⟨y, 0, none⟩ = some (.int .i64 (m1 : Int)) := HY7.out.cell 0
          have e1 : W7.cell? ⟨y, 1, none⟩ = some (.int .i64 m2) := HY7.out.cell 1
          have e2 : W7.cell? ⟨y, 2, none⟩ = some (.int .i64 m3) := HY7.out.cell 2
          have HEX : Hid (∀ j, j < ids.length * 3 → ∃ v, W7.cell? ⟨R, j, none⟩ = some v ∧ W7.frozen? ⟨R, j, none⟩ = false) := fun j hj => by
            obtain ⟨cs, hr, hsz, _⟩ := HK7.out
            exact ⟨cs[j], by rw [hr.cell]; exact Array.getElem?_eq_getElem (by omega), hr.frozen j⟩
          obtain ⟨v0, r0, f0⟩ := HEX.out (i * 3) (by omega)
          obtain ⟨v1, r1, f1⟩ := HEX.out (i * 3 + 1) (by omega)
          obtain ⟨v2, r2, f2⟩ := HEX.out (i * 3 + 2) (by omega)
          have HIL : Hid ((i : Int) < ids.length) := hlt
          go_wp2
          go_roundw
          case rel => exact ⟨i + 1, by push_cast; rfl, by have := HIL.out; push_cast; omega, HST.out _ HK7.out, (HI.out.2.trans (HF7.out.mono (fun _ _ e => (nomatch e)))).trans (((Fr.set (S := fun j => j = R) _ _ _ _ rfl).trans (Fr.set (S := fun j => j = R) _ _ _ _ rfl)).trans (Fr.set (S := fun j => j = R) _ _ _ _ rfl))⟩
          case measure => exact HMS.out
        · have hil : i = ids.length := by omega
          have HKE : Hid (Rk wr R ids.length cds ids.length) := by have := HI.out.1; rw [hil] at this; exact this
          have HFE := Lib.hid HI.out.2
          clear HI i1 hil
          go_wp2
          go_ret
          have g1 := HF1.out.size
          have g2 := HG.out.size
          have g3 := HFW.out.size
          have g4 := F5.out.size
          have g5 := HRR.out
          have g6 := HZZ.out
          refine ⟨R, rfl, by omega, by rw [HCDS.out]; exact HKE.out, ⟨T5, HT5.out, (HS5.out.fr HF6.out (fun _ _ e => e)).fr HFE.out (fun kk hk2 e => by have := HS.out.own_lt hk2; have e2 : kk = R := e; omega)⟩, ?_⟩
          exact Fr.over ((Fr.over ((HF1.out.trans HG.out).mono (fun _ _ e => (nomatch e))) HFW.out (fun i hi => by rcases hi with hi | hi; exact .inl hi; exact .inr (by omega))).trans (F5.out.trans (HF6.out.mono (fun _ _ e => (nomatch e))))) HFE.out (fun i hi => .inr (by have e2 : i = R := hi; omega))
end
end Go.Proofs.YtjaaljcdaamcjaaGreat
