/- Interrupts: remove, Detach. -/
import Derived.Test.YtbnchmhhhildnaaXza
namespace Go.Proofs.Ytbnchmhhhildnaa
open Go.RowKit Go.Maps
set_option linter.unusedVariables false

/-- An order without x. -/
def rmO (o : List Int) (x : Int) : List Int := o.filter (fun z => !(z == x))
theorem mem_rmO {o : List Int} {x z : Int} : z ∈ rmO o x ↔ z ∈ o ∧ z ≠ x := by simp [rmO]
/-- A controller without the attachment x of line n. -/
noncomputable def remS (s : IS) (x : Int) (n : Nat) (l : IL) : IS := { (setLs s n { l with o := rmO l.o x }) with cn := fun z => upd s.cn ((n : Int), x) 0 z, att := del x s.att }
theorem IOk.rem {s : IS} (h : IOk s) {x : Int} {t : Tm} (hg : get s.att x = some t) {n : Nat} {l : IL} (hn : t.l = n) (hl : s.ls[n]? = some l) : IOk (remS s x n l) := by
  have hnl := (List.getElem?_eq_some_iff.1 hl).1
  have key : ∀ (i : Nat) (m : IL), (remS s x n l).ls[i]? = some m → (i = n ∧ m.o = rmO l.o x) ∨ (i ≠ n ∧ s.ls[i]? = some m) := fun i m hm => by
    have hm : (s.ls.set n { l with o := rmO l.o x })[i]? = some m := hm
    by_cases e : i = n
    · subst e
      rw [List.getElem?_set_self hnl] at hm
      cases hm; exact .inl ⟨rfl, rfl⟩
    · rw [List.getElem?_set_ne (fun q => e q.symm)] at hm
      exact .inr ⟨e, hm⟩
  have hlen : (remS s x n l).ls.length = s.ls.length := by show (s.ls.set _ _).length = _; simp
  have hd := fun y => get_del x y s.att
  refine ⟨by rw [hlen]; exact h.n0, by rw [hlen]; exact h.n1, sorted_del h.srt x, fun p hp => h.key p (List.mem_filter.1 hp).1, Nat.le_trans (List.length_filter_le _ _) h.cnt, fun i m z hm => ?_, fun i m hm => ?_, fun z u hu => ?_, fun k => ?_, fun k => ?_, fun i z hz => ?_⟩
  · show z ∈ m.o ↔ ∃ u, get (del x s.att) z = some u ∧ u.l = i
    rw [hd]
    rcases key i m hm with ⟨rfl, e⟩ | ⟨hne, hm⟩
    · rw [e, mem_rmO, h.ord i l z hl]
      by_cases ez : x = z
      · rw [if_pos ez]
        constructor
        · rintro ⟨_, q⟩; exact absurd ez.symm q
        · rintro ⟨u, hu, _⟩; cases hu
      · rw [if_neg ez]
        exact ⟨fun q => q.1, fun q => ⟨q, fun e2 => ez e2.symm⟩⟩
    · by_cases ez : x = z
      · rw [if_pos ez]
        constructor
        · intro hh
          obtain ⟨u, hu, e2⟩ := (h.ord i m z hm).1 hh
          rw [← ez, hg] at hu
          cases hu
          exact absurd (by omega) hne
        · rintro ⟨u, hu, _⟩; cases hu
      · rw [if_neg ez]; exact h.ord i m z hm
  · rcases key i m hm with ⟨rfl, e⟩ | ⟨hne, hm⟩
    · rw [e]; exact (h.dup i l hl).filter _
    · exact h.dup i m hm
  · have hu : get (del x s.att) z = some u := hu
    rw [hd] at hu
    rw [hlen]
    split at hu
    · cases hu
    · exact h.lin z u hu
  · show 0 ≤ upd s.cn ((n : Int), x) 0 k
    by_cases e : k = ((n : Int), x)
    · subst e; rw [upd_same]; omega
    · rw [upd_other e]; exact h.c0 k
  · show upd s.cn ((n : Int), x) 0 k ≤ 1000
    by_cases e : k = ((n : Int), x)
    · subst e; rw [upd_same]; omega
    · rw [upd_other e]; exact h.c1 k
  · have hz : upd s.cn ((n : Int), x) 0 ((i : Int), z) ≠ 0 := hz
    by_cases e : ((i : Int), z) = ((n : Int), x)
    · rw [e, upd_same] at hz; exact absurd rfl hz
    · rw [upd_other e] at hz
      rcases h.cz i z hz with h1 | ⟨u, h1, h2⟩
      · exact .inl h1
      · refine .inr ⟨u, ?_, h2⟩
        show get (del x s.att) z = some u
        rw [hd]
        by_cases ez : x = z
        · rw [← ez, hg] at h1
          cases h1
          exact absurd (by rw [← ez]; exact Prod.ext (by show (i : Int) = n; omega) rfl) e
        · rw [if_neg ez]; exact h1
set_option maxRecDepth 100000 in
set_option maxHeartbeats 4000000 in
theorem remove_ok {W : World} {O : Nat → Prop} {B : Nat} {y : LY} {s : IS} (h : CM W O B y s) (hk : IOk s) {x : Int} {t : Tm} (hg : get s.att x = some t) {n : Nat} {l : IL} (hn : t.l = n) (hl : s.ls[n]? = some l) :
    Calls Try.prog 53 #[.pointer (some ⟨B, 0, none⟩), .int .i64 x] W fun e w' => e = .returned (.tuple #[]) ∧ (∃ y', CM w' (Gr O W w') B y' (remS s x n l)) ∧ Fr O W w' := by
  have hmem : x ∈ l.o := (hk.ord n l x hl).2 ⟨t, hg, hn⟩
  have hxW : isW x := hk.oW hl hmem
  have HXW := Lib.hid (And.intro (hk.nW hl) hxW)
  have HF1 : Hid (Fr No W (W.alloc (.cells #[.int .i64 x] 3))) := Fr.alloc _ _ _
  have HE1 := Lib.hid (RowAt.new W 3 #[.int .i64 x])
  have HM1 := Lib.hid (h.no HF1.out)
  have hnl := (List.getElem?_eq_some_iff.1 hl).1
  have n0 : (0 : Int) ≤ (n : Int) := by omega
  have n1 : (n : Int) < (s.ls.length : Nat) := by omega
  obtain ⟨a0, cap, hv⟩ := h.vs hl
  obtain ⟨g, cap0, e⟩ := own_slice2 (h.ord n l _ hl hv) (fun e => by rw [List.length_eq_zero_iff.1 e] at hmem; cases hmem)
  cases e
  have HV := Lib.hid hv
  have HL := Lib.hid hl
  have HG := Lib.hid hg
  have HN := Lib.hid hn
  have HLN := Lib.hid (hk.olen hl)
  have HTOP := Lib.hid h.top
  have HSZ : Hid (W.heap.size < (W.alloc (.cells #[.int .i64 x] 3)).heap.size) := by show _ < _; simp
  clear h hk hg hn hl hmem hv hnl
  go_enter Try.func53, Try.ntmps53
  go_upto_region 1 with (fail)
  generalize World.alloc W _ = W1 at HF1 HE1 HM1 HSZ ⊢
  generalize hE : W.heap.size = E at HE1 HSZ ⊢
  have HEW := Lib.hid hE
  clear hE
  have c1 : W1.cell? ⟨B, 1, none⟩ = some (.map (some y.a)) := HM1.out.row.cell 1
  have e0 : W1.cell? ⟨E, 0, none⟩ = some (.int .i64 x) := HE1.out.cell 0
  have l0 : (Instr.lookup 58 (.map (some y.a)) (.int .i64 x) false).run Try.prog W1.drew = .ok (.agg #[.int .i64 t.l, .int .i64 t.t, .int .i64 t.k, .int .i64 t.c, .int .i64 t.p, .int .i64 t.d, .int .i64 t.v]) W1.drew := by
    have := (HM1.out.no (Fr.drew No W1)).ma.look hxW
    rw [HG.out] at this
    exact this
  have fl : ∀ w, (Instr.field 87 (.agg #[.int .i64 t.l, .int .i64 t.t, .int .i64 t.k, .int .i64 t.c, .int .i64 t.p, .int .i64 t.d, .int .i64 t.v]) 0).run Try.prog w = .ok (.int .i64 t.l) w := fun w => by kernel_rfl
  clear hxW
  go_region_held3 (fun w' => w'.cell? ⟨B, 1, none⟩ = some (.map (some y.a)) ∧ w'.cell? ⟨E, 0, none⟩ = some (.int .i64 x))
    (exact ⟨c1, e0⟩)
    (fail)
  clear l0 fl c1
  rw [HN.out]
  have HF2 : Hid (Fr No W W1.drew) := HF1.out.trans (Fr.drew _ _)
  have HM2 := Lib.hid (HM1.out.no (Fr.drew No W1))
  have HE2 := Lib.hid (HE1.out.fr (Fr.drew No W1) id)
  clear e0
  go_upto_region 2 with (fail)
  have HS2 : Hid (E < W1.drew.heap.size) := HSZ.out
  generalize World.drew W1 = W2 at HF2 HM2 HE2 HS2 ⊢
  have c0 : W2.cell? ⟨B, 0, none⟩ = some (.slice (some ⟨y.b, 0, none⟩) s.ls.length y.cap) := HM2.out.row.cell 0
  have q1 : W2.cell? ⟨y.b, n * 4 + 1, none⟩ = some (.slice (some ⟨g, 0, none⟩) l.o.length cap) := (HM2.out.lines.cells HL.out HV.out).2.1
  have HM2d := Lib.hid (HM2.out.no (Fr.drew No W2))
  have HEG : Hid (E ≠ g) := by have := HTOP.out _ (HM2.out.ov n _ g HV.out rfl); have := HEW.out; show ¬ _ = _; omega
  have HDF := Lib.hid (delfn_ok (W := W2.drew) (id := x) (HM2d.out.ord n _ _ HL.out HV.out) (by have := HLN.out; omega) (E := E) HS2.out HEG.out ((HE2.out.fr (Fr.drew No W2) id).cell 0))
  have HEB : Hid (E ≠ y.b) := by have := HTOP.out _ HM2.out.ob; have := HEW.out; show ¬ _ = _; omega
  have HEC : Hid (E ≠ y.c) := by have := HTOP.out _ HM2.out.oc; have := HEW.out; show ¬ _ = _; omega
  have HEA : Hid (E ≠ y.a) := by have := HTOP.out _ HM2.out.oa; have := HEW.out; show ¬ _ = _; omega
  have HOC := Lib.hid HM2.out.oc
  have HOA := Lib.hid HM2.out.oa
  have HYB : Hid (g ≠ y.b) := HM2.out.line_ne.2.2.2.2 n _ g HV.out rfl
  go_region_with (go_at_call 62; refine HDF.out.mono ?_; rintro e W3 ⟨rfl, p1, p2⟩; have P1 := Lib.hid p1; have P2 := Lib.hid p2; have d0 : W3.cell? ⟨B, 0, none⟩ = some (.slice (some ⟨y.b, 0, none⟩) s.ls.length y.cap) := (HM2d.out.row.fr p2 (OL.ne HM2d.out (HM2d.out.ord n _ _ HL.out HV.out) (k := g) rfl).1).cell 0; have d1 : W3.cell? ⟨y.b, n * 4 + 1, none⟩ = some (.slice (some ⟨g, 0, none⟩) l.o.length cap) := ((HM2d.out.lines.fr p2 (Ne.symm HYB.out)).cells HL.out HV.out).2.1; have f1 : W3.frozen? ⟨y.b, n * 4 + 1, none⟩ = false := (HM2d.out.lines.fr p2 (Ne.symm HYB.out)).frozen _; have H4 := Lib.hid (HM2d.out.setO HL.out HV.out (p2.mono (fun k _ e => by rw [e]; rfl)) p1 (fun k e => .inl e)); have HE4 := Lib.hid (((HE2.out.fr (Fr.drew No W2) id).fr p2 HEG.out).fr (Fr.set (S := fun k => k = y.b) W3 y.b (n * 4 + 1) (.slice (some ⟨g, 0, none⟩) (l.o.filter (fun z => !(z == x))).length cap) rfl) HEB.out); clear p1 p2)
  all_goals (
    clear c0 q1
    generalize World.setCell W3 _ _ = W4 at H4 HE4 ⊢
    have HF4 : Hid (Fr O W W4) := (HF2.out.any.trans (Fr.drew _ _)).trans H4.out.2
    have HM4 := Lib.hid H4.out.1
    have HGW : Hid (W.heap.size ≤ W2.drew.heap.size) := HF2.out.size
    clear d0 d1 f1
    go_upto_region 3 with (fail)
    have c2 : W4.cell? ⟨B, 2, none⟩ = some (.map (some y.c)) := HM4.out.row.cell 2
    have e4 : W4.cell? ⟨E, 0, none⟩ = some (.int .i64 x) := HE4.out.cell 0
    obtain ⟨W5, g1, g2, g3⟩ := (HM4.out.no (Fr.drew No W4)).mc.drop (k := ((n : Int), x)) HXW.out 0
    have HM5 := Lib.hid ((HM4.out.no (Fr.drew No W4)).setC g3 g2)
    have HF5 : Hid (Fr O W W5) := HF4.out.trans ((Fr.drew _ _).trans (g3.mono (fun k _ e => by subst e; exact HOC.out)))
    have HE5 := Lib.hid ((HE4.out.fr (Fr.drew No W4) id).fr g3 HEC.out)
    have hg1 : ∀ ty, (Builtin.delete_ #[59, 81] ty #[.map (some y.c), .agg #[.int .i64 n, .int .i64 x]]).run Try.prog W4.drew = .ok (.tuple #[]) W5 := fun ty => g1
    have HK5 : Hid (W5.cell? ⟨B, 2, none⟩ = some (.map (some y.c)) ∧ W5.cell? ⟨E, 0, none⟩ = some (.int .i64 x)) := ⟨HM5.out.row.cell 2, HE5.out.cell 0⟩
    have HS45 : Hid (W4.heap.size ≤ W5.heap.size) := g3.size
    clear g1 g2 g3
    go_region_held3 (fun w' => w'.cell? ⟨B, 2, none⟩ = some (.map (some y.c)) ∧ w'.cell? ⟨E, 0, none⟩ = some (.int .i64 x))
      (first | (exact ⟨c2, e4⟩) | (exact HK5.out))
      (fail)
    all_goals (
      clear c2 e4 hg1
      go_upto_region 4 with (fail)
      have c1 : W5.cell? ⟨B, 1, none⟩ = some (.map (some y.a)) := HM5.out.row.cell 1
      have e5 : W5.cell? ⟨E, 0, none⟩ = some (.int .i64 x) := HE5.out.cell 0
      obtain ⟨W6, g1, g2, g3⟩ := (HM5.out.no (Fr.drew No W5)).ma.drop HXW.out.2 0
      have HM6 := Lib.hid ((HM5.out.no (Fr.drew No W5)).setA g3 g2)
      have HF6 : Hid (Fr O W W6) := HF5.out.trans ((Fr.drew _ _).trans (g3.mono (fun k _ e => by subst e; exact HOA.out)))
      have HE6 := Lib.hid ((HE5.out.fr (Fr.drew No W5) id).fr g3 HEA.out)
      have hg1 : ∀ ty, (Builtin.delete_ #[58, 3] ty #[.map (some y.a), .int .i64 x]).run Try.prog W5.drew = .ok (.tuple #[]) W6 := fun ty => g1
      have HK6 : Hid (W6.cell? ⟨B, 1, none⟩ = some (.map (some y.a)) ∧ W6.cell? ⟨E, 0, none⟩ = some (.int .i64 x)) := ⟨HM6.out.row.cell 1, HE6.out.cell 0⟩
      have HS46 : Hid (W4.heap.size ≤ W6.heap.size) := Nat.le_trans HS45.out g3.size
      clear g1 g2 g3
      go_region_held3 (fun w' => w'.cell? ⟨B, 1, none⟩ = some (.map (some y.a)) ∧ w'.cell? ⟨E, 0, none⟩ = some (.int .i64 x))
        (first | (exact ⟨c1, e5⟩) | (exact HK6.out))
        (fail)
      all_goals (
        clear c1 e5 hg1
        go_end0
        refine ⟨rfl, ⟨_, HM6.out.mono (fun k hk => hk.elim .inl (fun e => .inr ⟨Nat.le_trans HGW.out e.1, Nat.lt_of_lt_of_le e.2 HS46.out⟩)) (fun k hk => hk.elim (fun e => HM6.out.top k (.inl e)) (fun e => e.2))⟩, HF6.out⟩)))
end Go.Proofs.Ytbnchmhhhildnaa
