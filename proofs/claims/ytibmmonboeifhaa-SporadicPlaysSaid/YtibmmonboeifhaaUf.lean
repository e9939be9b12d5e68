/- The contracts of replenish and tell. -/
import Derived.Test.YtibmmonboeifhaaUe
import Derived.Deep.LoopGhost
namespace Go.Proofs.Ytibmmonboeifhaa
open Go.RowKit
set_option linter.unusedVariables false

/-- The server at B (its places at G) is s. -/
def SS (B G : Nat) (T : Int) (s : AQ) (W : World) : Prop := AI T s ∧ ∃ q, SAt W B q ∧ q.G = G ∧ ab q = s
def ToA (B G : Nat) (T : Int) (s : AQ) (W : World) (e : Ending) (w' : World) : Prop := (∃ v, e = .returned v) ∧ SS B G T s w' ∧ Fr (fun k => k = B ∨ k = G) W w'
theorem SS.keep {B G : Nat} {T : Int} {s : AQ} {W W' : World} {S : Nat → Prop} (h : SS B G T s W) (hg : Fr S W W') (h1 : ¬ S B) (h2 : ¬ S G) : SS B G T s W' := by
  obtain ⟨h0, q, hq, rfl, rfl⟩ := h
  exact ⟨h0, q, hq.keep hg h1 h2, rfl, rfl⟩
theorem takeA_nil {u : Int} {s : AQ} (h : s.l = []) : takeA u s = s := by
  obtain ⟨p, l, b, c, ls, k, r, t⟩ := s
  obtain rfl : ls = [] := h
  rfl
theorem takeA_no {u : Int} {s : AQ} {x : Int × Int} {r : List (Int × Int)} (h : s.l = x :: r) (hx : ¬ x.1 ≤ u) : takeA u s = s := by
  obtain ⟨p, l, b, c, ls, k, r', t⟩ := s
  obtain rfl : ls = x :: r := h
  rw [takeA]
  show AQ.mk _ _ _ _ _ _ _ _ = _
  rw [takeL, if_neg hx]
theorem takeA_yes {u : Int} {s : AQ} {x : Int × Int} {r : List (Int × Int)} (h : s.l = x :: r) (hx : x.1 ≤ u) : takeA u { s with bud := s.bud + x.2, l := r } = takeA u s := by
  obtain ⟨p, l, b, c, ls, k, r', t⟩ := s
  obtain rfl : ls = x :: r := h
  rw [takeA, takeA]
  show AQ.mk _ _ _ _ _ _ _ _ = AQ.mk _ _ _ _ _ _ _ _
  rw [takeL, if_pos hx]
def RepI (B : Nat) (T u : Int) (W : World) (q0 : SQ) (k : Nat) (wr : World) : Prop := ∃ q, SAt wr B q ∧ q.G = q0.G ∧ q.count = k ∧ takeA u (ab q) = takeA u (ab q0) ∧ AI T (ab q) ∧ Fr (fun k => k = B ∨ k = q0.G) W wr

set_option maxHeartbeats 1000000 in
theorem rep_any {W : World} {B : Nat} {T : Int} {q : SQ} (h : SAt W B q) (ha : AI T (ab q)) (u : Int) : Calls Try.prog 92 #[.pointer (some ⟨B, 0, none⟩), .int .i64 u] W (ToA B q.G T (takeA u (ab q)) W) := by
  have HI : Hid (RepI B T u W q q.count W) := ⟨q, h, rfl, rfl, rfl, ha, Fr.refl _ _⟩
  clear h ha
  go_enter Try.func92, Try.ntmps92
  go_wp2
  go_loopg [] q.count (fun k wr => Hid (RepI B T u W q k wr))
  case atStart => exact HI
  case round =>
    have HR := hrel
    clear hrel HI
    obtain ⟨q1, h1, h2, h3, h4, h5, h6⟩ := HR.out
    have HS := Lib.hid h1
    have HE := Lib.hid (empty_any h1)
    have HF := Lib.hid (first_any h1)
    have HX := Lib.hid (And.intro h2 (And.intro h3 (And.intro h4 (And.intro h5 h6))))
    by_cases h0 : q1.count = 0
    · rw [decide_eq_true h0] at HE
      have H0 := Lib.hid h0
      clear h0 h1 h2 h3 h4 h5 h6 HR
      go_wp2_with (go_at_call 69; refine HE.out.mono ?_; rintro e w' ⟨rfl, rfl⟩)
      go_end0
      obtain ⟨e1, e2, e3, e4, e5⟩ := HX.out
      have hl : (ab q1).l = [] := List.length_eq_zero_iff.1 (by show (lst q1).length = 0; rw [lst_len]; exact H0.out)
      refine ⟨⟨_, rfl⟩, ⟨?_, q1, HS.out, e1, ?_⟩, e5⟩
      · rw [← e3, takeA_nil hl]; exact e4
      · rw [← e3, takeA_nil hl]
    · rw [decide_eq_false h0] at HE
      have hd := lst_drop q1 h1.fr (by omega)
      have p1 := h1.p1 q1.front h1.fr
      have p2 := h1.p2 q1.front h1.fr
      have c2 : wr.cell? ⟨B, 2, none⟩ = some (.int .i64 q1.bud) := h1.row.cell 2
      have f2 : wr.frozen? ⟨B, 2, none⟩ = false := h1.row.frozen 2
      have hm : q1.pl q1.front ∈ (ab q1).l := by show _ ∈ lst q1; rw [hd]; simp
      have a0 := h5.amt _ hm
      have a1 := sumL_mem h5.amt hm
      have a2 := sumL_nonneg h5.amt
      have b0 : 0 ≤ q1.bud := h5.bud0
      have b1 : q1.bud + sumL (ab q1).l + q1.chk = T := h5.sum
      have b2 : 0 ≤ q1.chk := h5.chk0
      have b3 := h5.tot
      have b4 : q1.bud ≤ 1000000 := by omega
      have a3 : (q1.pl q1.front).2 ≤ 1000000 := by omega
      have H0 := Lib.hid h0
      have HD := Lib.hid hd
      by_cases ht : (q1.pl q1.front).1 ≤ u
      · have HT := Lib.hid ht
        clear h0 h1 h2 h3 h4 h5 h6 HR hd hm a1 a2 b1 b2 b3
        go_upto_region 1 with (first
          | (go_at_call 69; refine HE.out.mono ?_; rintro e w' ⟨rfl, rfl⟩)
          | (go_at_call 70; refine HF.out.mono ?_; rintro e w' ⟨rfl, n, rfl⟩))
        clear HE HF
        have HF : Hid (∀ W, SAt W B q1 → Calls Try.prog 70 #[.pointer (some ⟨B, 3, none⟩)] W (Qu (.pointer (some ⟨q1.G, q1.front * 2, none⟩)) W)) := fun W h => first_any h
        have HS2 := Lib.hid (HS.out.drewN n)
        have hw : IntKind.i64.wrap (q1.bud + (q1.pl q1.front).2) = q1.bud + (q1.pl q1.front).2 := IntWalk.i64_in _ (by omega)
        have HS3 : Hid (∀ m, SAt ((wr.drewN m).setCell ⟨B, 2, none⟩ (.int .i64 (q1.bud + (q1.pl q1.front).2))) B { q1 with bud := q1.bud + (q1.pl q1.front).2 }) := fun m => (HS.out.drewN m).set 2 (.int .i64 (q1.bud + (q1.pl q1.front).2)) { q1 with bud := q1.bud + (q1.pl q1.front).2 } rfl rfl rfl rfl HS.out.fr HS.out.cnt
        have HF3 : Hid (∀ m, Fr (fun k => k = B ∨ k = q.G) wr ((wr.drewN m).setCell ⟨B, 2, none⟩ (.int .i64 (q1.bud + (q1.pl q1.front).2)))) := fun m => (Fr.drewN _ _ _).trans (Fr.set _ _ _ _ (.inl rfl))
        have HDR : Hid (∀ W, SAt W B { q1 with bud := q1.bud + (q1.pl q1.front).2 } → Calls Try.prog 100 #[.pointer (some ⟨B, 3, none⟩)] W (To B q1.G (dropQ { q1 with bud := q1.bud + (q1.pl q1.front).2 }) W)) := fun W h => drop_any h (Nat.pos_of_ne_zero H0.out)
        go_region_with (go_at_call 70; refine (HF.out _ (HS2.out.rest (Fr.drew _ _))).mono ?_; rintro e w' ⟨rfl, n2, rfl⟩)
        all_goals
          go_wp2_with (go_at_call 100; refine (HDR.out _ (HS3.out _)).mono ?_; rintro e w4 ⟨⟨v, rfl⟩, s4, g4⟩; have S4 := Lib.hid s4; have G4 := Lib.hid ((HF3.out _).trans (g4.mono (fun k _ hk => hk.imp id (fun e => e.trans HX.out.1)))); clear s4 g4)
          go_roundg (q1.count - 1)
          case rel =>
            obtain ⟨e1, e2, e3, e4, e5⟩ := HX.out
            have hA : ab (dropQ { q1 with bud := q1.bud + (q1.pl q1.front).2 }) = { ab q1 with bud := (ab q1).bud + (q1.pl q1.front).2, l := lst (dropQ q1) } := rfl
            refine ⟨_, S4.out, e1, rfl, ?_, ?_, e5.trans G4.out⟩
            · rw [hA, takeA_yes (show (ab q1).l = _ :: _ from HD.out) HT.out]; exact e3
            · rw [hA]
              have hl : (ab q1).l = q1.pl q1.front :: lst (dropQ q1) := HD.out
              have hs := e4.sum
              rw [hl, sumL_cons] at hs
              have hlen := e4.len
              rw [hl] at hlen
              refine ⟨e4.per0, e4.per1, e4.cap0, Nat.le_of_succ_le hlen, ?_, e4.chk0, fun x hx => e4.amt x (by rw [hl]; exact List.mem_cons_of_mem _ hx), ?_, e4.tot, e4.ran0, e4.ran1⟩
              · have := e4.bud0
                show 0 ≤ (ab q1).bud + (q1.pl q1.front).2
                omega
              · show (ab q1).bud + (q1.pl q1.front).2 + sumL (lst (dropQ q1)) + (ab q1).chk = T
                omega
          case measure => have := H0.out; have := HX.out.2.1; omega
      · clear h0 h1 h2 h3 h4 h5 h6 HR hd hm a1 a2 b1 b2 b3
        have HT := Lib.hid ht
        have ht' : u < (q1.pl q1.front).1 := by omega
        clear ht
        go_wp2_with (first
          | (go_at_call 69; refine HE.out.mono ?_; rintro e w' ⟨rfl, rfl⟩)
          | (go_at_call 70; refine HF.out.mono ?_; rintro e w' ⟨rfl, n, rfl⟩))
        go_end0
        obtain ⟨e1, e2, e3, e4, e5⟩ := HX.out
        refine ⟨⟨_, rfl⟩, ⟨?_, q1, HS.out.drewN n, e1, ?_⟩, e5.trans (Fr.drewN _ _ _)⟩
        · rw [← e3, takeA_no (show (ab q1).l = _ :: _ from HD.out) (by have := HT.out; omega)]; exact e4
        · rw [← e3, takeA_no (show (ab q1).l = _ :: _ from HD.out) (by have := HT.out; omega)]
theorem rep_ss {W : World} {B G : Nat} {T : Int} {s : AQ} (h : SS B G T s W) (u : Int) : Calls Try.prog 92 #[.pointer (some ⟨B, 0, none⟩), .int .i64 u] W (ToA B G T (takeA u s) W) := by
  obtain ⟨h0, q, hq, rfl, rfl⟩ := h
  exact rep_any hq h0 u
theorem end_ss {W : World} {B G : Nat} {T : Int} {s : AQ} (h : SS B G T s W) : Calls Try.prog 72 #[.pointer (some ⟨B, 0, none⟩)] W (ToA B G T (endA s) W) := by
  obtain ⟨h0, q, hq, rfl, rfl⟩ := h
  exact (end_any hq h0.sb).mono fun e w' ⟨hv, h1, h2⟩ => ⟨hv, ⟨h0.ended, _, h1, by rw [endQ]; split <;> rfl, ab_end q hq.fr hq.cnt hq.cap0⟩, h2⟩
theorem SS.cells {W : World} {B G : Nat} {T : Int} {s : AQ} (h : SS B G T s W) : W.cell? ⟨B, 0, none⟩ = some (.int .i64 s.per) ∧ W.cell? ⟨B, 1, none⟩ = some (.int .i64 s.low) ∧ W.cell? ⟨B, 2, none⟩ = some (.int .i64 s.bud) ∧ W.cell? ⟨B, 6, none⟩ = some (.int .i64 s.chk) ∧ W.cell? ⟨B, 7, none⟩ = some (.int .i64 s.ran) ∧ W.cell? ⟨B, 8, none⟩ = some (.int .i64 s.told) ∧ ∀ i, W.frozen? ⟨B, i, none⟩ = false := by
  obtain ⟨h0, q, hq, rfl, rfl⟩ := h
  exact ⟨hq.row.cell 0, hq.row.cell 1, hq.row.cell 2, hq.row.cell 6, hq.row.cell 7, hq.row.cell 8, fun i => hq.row.frozen i⟩
theorem SS.told {W : World} {B G : Nat} {T : Int} {s : AQ} (h : SS B G T s W) (t : Int) : SS B G T { s with told := t } (W.setCell ⟨B, 8, none⟩ (.int .i64 t)) := by
  obtain ⟨h0, q, hq, rfl, rfl⟩ := h
  exact ⟨⟨h0.per0, h0.per1, h0.cap0, h0.len, h0.bud0, h0.chk0, h0.amt, h0.sum, h0.tot, h0.ran0, h0.ran1⟩, _, hq.set 8 _ { q with told := t } rfl rfl rfl rfl hq.fr hq.cnt, rfl, rfl⟩
theorem SS.lt {W : World} {B G : Nat} {T : Int} {s : AQ} (h : SS B G T s W) : B < W.heap.size ∧ G < W.heap.size ∧ B ≠ G := by
  obtain ⟨h0, q, hq, rfl, rfl⟩ := h
  exact ⟨hq.row.lt, hq.pla.lt, hq.ne⟩

set_option maxHeartbeats 1000000 in
theorem tell_any {W : World} {B G : Nat} {T : Int} {s : AQ} (h : SS B G T s W) (now : Int) : Calls Try.prog 71 #[.pointer (some ⟨B, 0, none⟩), .int .i64 now] W (ToA B G T (tellA now s) W) := by
  obtain ⟨_, _, _, c6, c7, _, _⟩ := h.cells
  have r0 := h.1.ran0
  have r1 := h.1.ran1
  have HH := Lib.hid h
  have HR : Hid (∀ W s u, SS B G T s W → Calls Try.prog 92 #[.pointer (some ⟨B, 0, none⟩), .int .i64 u] W (ToA B G T (takeA u s) W)) := fun W s u h => rep_ss h u
  have HE : Hid (∀ W s, SS B G T s W → Calls Try.prog 72 #[.pointer (some ⟨B, 0, none⟩)] W (ToA B G T (endA s) W)) := fun W s h => end_ss h
  by_cases hc : 0 < s.chk ∧ s.ran + 1 < now
  · have HT : Hid (tellA now s = { takeA now (endA (takeA (s.ran + 1) s)) with told := now }) := by show _ = _; rw [tellA, if_pos hc]
    obtain ⟨hc1, hc2⟩ := hc
    clear h
    go_enter Try.func71, Try.ntmps71
    go_upto_region 5 with (first
      | (go_at_call 92; refine (HR.out _ _ _ HH.out).mono ?_; rintro e W1 ⟨⟨v, rfl⟩, s1, g1⟩; have S1 := Lib.hid s1; have G1 := Lib.hid g1; clear s1 g1 HH c6 c7)
      | (go_at_call 72; refine (HE.out _ _ S1.out).mono ?_; rintro e W2 ⟨⟨v2, rfl⟩, s2, g2⟩; have S2 := Lib.hid s2; have G2 := Lib.hid (G1.out.trans g2); clear s2 g2 S1 G1)
      | (go_at_call 92; refine (HR.out _ _ _ S2.out).mono ?_; rintro e W3 ⟨⟨v3, rfl⟩, s3, g3⟩; have S3 := Lib.hid s3; have G3 := Lib.hid (G2.out.trans g3); clear s3 g3 S2 G2))
    obtain ⟨_, _, _, _, _, c8, f8⟩ := S3.out.cells
    have f8' := f8 8
    clear f8
    go_wp2
    go_end0
    refine ⟨⟨_, rfl⟩, ?_, G3.out.trans (Fr.set _ _ _ _ (.inl rfl))⟩
    rw [HT.out]; exact S3.out.told now
  · have HT : Hid (tellA now s = { takeA now s with told := now }) := by show _ = _; rw [tellA, if_neg hc]
    by_cases h1 : 0 < s.chk
    · have h2 : ¬ s.ran + 1 < now := fun e => hc ⟨h1, e⟩
      clear h hc
      go_enter Try.func71, Try.ntmps71
      go_upto_region 5 with (go_at_call 92; refine (HR.out _ _ _ HH.out).mono ?_; rintro e W3 ⟨⟨v3, rfl⟩, s3, g3⟩; have S3 := Lib.hid s3; have G3 := Lib.hid g3; clear s3 g3 HH c6 c7)
      obtain ⟨_, _, _, _, _, c8, f8⟩ := S3.out.cells
      have f8' := f8 8
      clear f8
      go_wp2
      go_end0
      refine ⟨⟨_, rfl⟩, ?_, G3.out.trans (Fr.set _ _ _ _ (.inl rfl))⟩
      rw [HT.out]; exact S3.out.told now
    · clear h hc
      go_enter Try.func71, Try.ntmps71
      go_upto_region 5 with (go_at_call 92; refine (HR.out _ _ _ HH.out).mono ?_; rintro e W3 ⟨⟨v3, rfl⟩, s3, g3⟩; have S3 := Lib.hid s3; have G3 := Lib.hid g3; clear s3 g3 HH c6 c7)
      obtain ⟨_, _, _, _, _, c8, f8⟩ := S3.out.cells
      have f8' := f8 8
      clear f8
      go_wp2
      go_end0
      refine ⟨⟨_, rfl⟩, ?_, G3.out.trans (Fr.set _ _ _ _ (.inl rfl))⟩
      rw [HT.out]; exact S3.out.told now
end Go.Proofs.Ytibmmonboeifhaa
