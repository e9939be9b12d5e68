/- Interrupts: Deliver. -/
import Derived.Test.YtbnchmhhhildnaaXs
import Derived.Laws.AppendOwnNone
namespace Go.Proofs.Ytbnchmhhhildnaa
open Go.RowKit Go.Maps
set_option linter.unusedVariables false

theorem deliver_nil (W : World) : Calls Try.prog 20 #[.pointer none] W fun e w' => e = .returned (.slice none 0 0) ∧ W = w' := by
  go_enter Try.func20, Try.ntmps20
  go_wp2
  go_ret
  exact ⟨rfl, rfl⟩
/-- What a line's delivery answers. -/
theorem dline_e {W : World} {O : Nat → Prop} {B : Nat} {y : LY} {s : IS} (h : CM W O B y s) {n : Nat} {l : IL} (hl : s.ls[n]? = some l) (h0 : l.o = []) :
    Calls Try.prog 45 #[.pointer (some ⟨B, 0, none⟩), .int .i64 (n : Int)] W fun e w' => e = .returned (.slice none 0 0) ∧ CM w' O B y (dlS s n l) ∧ Fr O W w' := by
  refine (dline_none h hl h0).mono ?_
  rintro e w' ⟨rfl, h1, h2⟩
  refine ⟨rfl, ?_, h2⟩
  have e : dlS s n l = setLs s n { l with p := false, s := wrap64 (l.s + 1) } := by
    unfold dlS dlL
    rw [if_pos h0, h0]
    rfl
  rw [e]; exact h1
theorem dline_f {W : World} {O : Nat → Prop} {B : Nat} {y : LY} {s : IS} (h : CM W O B y s) (hk : IOk s) {n : Nat} {l : IL} (hl : s.ls[n]? = some l) (h0 : l.o ≠ []) :
    Calls Try.prog 45 #[.pointer (some ⟨B, 0, none⟩), .int .i64 (n : Int)] W fun e w' => ∃ g c, e = .returned (.slice (some ⟨g, 0, none⟩) l.o.length c) ∧ CM w' O B y (dlS s n l) ∧ w'.ownsRow W.heap.size 50 9 (.slice (some ⟨g, 0, none⟩) l.o.length c) l.o.length (dsE (dQ s n l.o).2.2) ∧ Fr O W w' := by
  refine (dline_some h hk hl h0).mono ?_
  rintro e w' ⟨v, rfl, h1⟩
  have hcm := h1.cm
  have how := h1.own
  rw [List.take_length] at hcm how
  obtain ⟨g, c, rfl⟩ := own_slice2 how (fun e => h0 (List.length_eq_zero_iff.1 e))
  refine ⟨g, c, rfl, ?_, how, h1.fr⟩
  have e : dlS s n l = { (setLs s n { l with p := false }) with cn := (dQ s n l.o).1, th := (dQ s n l.o).2.1 } := by
    unfold dlS dlL
    rw [if_neg h0]
  rw [e]; exact hcm
/-- Where Deliver's loop stands. -/
structure DK (W : World) (O : Nat → Prop) (B : Nat) (y : LY) (s : IS) (k : Nat) (v : Value) (wr : World) : Prop where
  cm : CM wr O B y (dA s k).1
  own : wr.ownsRow W.heap.size 50 9 v (dA s k).2.length (dsE (dA s k).2)
  fr : Fr O W wr
theorem dA_hit {s : IS} {k : Nat} {l : IL} (hl : (dA s k).1.ls[k]? = some l) (hp : l.p = true) (hz : sumL (dA s k).1 k l.o = 0) : dA s (k + 1) = (dlS (dA s k).1 k l, (dA s k).2 ++ (dQ (dA s k).1 k l.o).2.2) := by
  rw [dA, hl]
  simp only []
  rw [if_pos ⟨hp, hz⟩]
theorem dA_miss {s : IS} {k : Nat} {l : IL} (hl : (dA s k).1.ls[k]? = some l) (hz : l.p = false ∨ sumL (dA s k).1 k l.o ≠ 0) : dA s (k + 1) = dA s k := by
  rw [dA, hl]
  simp only []
  rw [if_neg (fun ⟨a, b⟩ => by rcases hz with hz | hz; rw [hz] at a; cases a; exact hz b)]
theorem dsE_one (l : List Dv) : ∀ u ∈ dsE l, u.oneCell' = true := fun u hu => by
  simp only [dsE, List.mem_flatMap] at hu
  obtain ⟨x, _, hx⟩ := hu
  exact dv_one x u hx
set_option maxRecDepth 100000 in
set_option maxHeartbeats 4000000 in
theorem deliver_ok {W : World} {O : Nat → Prop} {B : Nat} {y : LY} {s : IS} (h : CM W O B y s) (hk : IOk s) :
    Calls Try.prog 20 #[.pointer (some ⟨B, 0, none⟩)] W fun e w' => ∃ v, e = .returned v ∧ DK W O B y s s.ls.length v w' := by
  obtain ⟨it, hi0, hz0, hz1, hz2⟩ := info_parts info_dv
  have HT0 := Lib.hid hi0
  have HT1 := Lib.hid hz0
  have HT2 := Lib.hid hz1
  have HT3 := Lib.hid hz2
  clear hi0 hz0 hz1 hz2
  have c0 : W.cell? ⟨B, 0, none⟩ = some (.slice (some ⟨y.b, 0, none⟩) s.ls.length y.cap) := h.row.cell 0
  have HM := Lib.hid h
  have HK := Lib.hid hk
  have HTOP := Lib.hid h.top
  have HN1 := Lib.hid hk.n1
  have HLEN : Hid (∀ k, (dA s k).1.ls.length = s.ls.length) := dA_len
  generalize hN : s.ls.length = N at c0 HN1 HLEN ⊢
  have n64 : (N : Int) ≤ 64 := by have := HN1.out; omega
  clear h hk hN
  go_enter Try.func20, Try.ntmps20
  go_wp2
  go_loopw [3, 4, 12] (fun v3 v4 vi wr => ∃ (i : Nat) (v : Value), vi = .int .i64 i ∧ Hid (v3 = v ∧ i ≤ N ∧ DK W O B y s i v wr)) (fun _ _ vi _ => N - (intOf vi).toNat)
  case atStart => exact ⟨0, _, rfl, rfl, Nat.zero_le _, ⟨HM.out, World.ownsRow_nil _ _ _ _, Fr.refl _ _⟩⟩
  case round =>
    obtain ⟨i, v, rfl, HR⟩ := hrel
    obtain ⟨e3, hil, hDK⟩ := HR.out
    subst e3
    have i0 : (0 : Int) ≤ i := by omega
    have i2 : (i : Int) ≤ 1000 := by omega
    obtain ⟨av, cv, hvv⟩ := own_shape hDK.own
    subst hvv
    have HD := Lib.hid hDK
    clear HR hDK
    by_cases hi : i < N
    · have i1 : (i : Int) < (N : Nat) := by omega
      obtain ⟨l, hl⟩ : ∃ l, (dA s i).1.ls[i]? = some l := ⟨_, List.getElem?_eq_getElem (by rw [HLEN.out]; exact hi)⟩
      have HL := Lib.hid hl
      have HKI := Lib.hid (dA_ok HK.out i)
      obtain ⟨a1, c1, hv1⟩ := HD.out.cm.vs hl
      have b0 : wr.cell? ⟨B, 0, none⟩ = some (.slice (some ⟨y.b, 0, none⟩) N y.cap) := by
        have := HD.out.cm.row.cell 0
        rw [HLEN.out] at this
        exact this
      have q2 : wr.cell? ⟨y.b, i * 4 + 2, none⟩ = some (.bool l.p) := (HD.out.cm.lines.cells hl hv1).2.2.1
      have HS := Lib.hid (sum_ok HD.out.cm HKI.out hl)
      have HMS : Hid (N - (intOf (Value.int IntKind.i64 ((i : Int) + 1))).toNat < N - (intOf (Value.int IntKind.i64 (i : Int))).toNat) := by
        show _ < _
        simp only [intOf]
        omega
      have HI1 : Hid (i + 1 ≤ N) := hi
      clear hl hv1 hi
      cases hp : l.p
      · rw [hp] at q2
        have HA := Lib.hid (dA_miss HL.out (.inl hp))
        clear hp
        go_wp2
        go_roundw
        case rel => exact ⟨i + 1, _, by push_cast; rfl, rfl, HI1.out, ⟨by rw [HA.out]; exact HD.out.cm, by rw [HA.out]; exact HD.out.own, HD.out.fr⟩⟩
        case measure => exact HMS.out
      · rw [hp] at q2
        by_cases hz : sumL (dA s i).1 i l.o = 0
        · rw [hz] at HS
          have HA := Lib.hid (dA_hit HL.out hp hz)
          clear hp hz
          have HCNT : Hid ((dA s i).2.length + l.o.length ≤ 10000) := by have := dA_count HK.out i; have := HKI.out.olen HL.out; have := HN1.out; have := HI1.out; show _ ≤ _; omega
          have HDSL : Hid ((dQ (dA s i).1 i l.o).2.2.length = l.o.length) := dQ_len _ _ _
          have HOUT : Hid (∀ w2 k, Fr O wr w2 → (Value.slice av (dA s i).2.length cv).ownBlock = some k → ¬ O k) := fun w2 k f e ok => by have := (HD.out.own.lt k e).1; have := HTOP.out k ok; omega
          by_cases h0 : l.o = []
          · have HDN := Lib.hid (dline_e HD.out.cm HL.out h0)
            have HE : Hid ((dA s (i + 1)).2 = (dA s i).2) := by
              show _ = _
              rw [HA.out]
              show _ ++ (dQ _ _ l.o).2.2 = _
              rw [h0]
              exact List.append_nil _
            clear h0
            go_wp2_with (first
              | (go_at_call 40; refine HS.out.mono ?_; rintro e w2 ⟨rfl, f2⟩; subst f2)
              | (go_at_call 45; refine HDN.out.mono ?_; rintro e w3 ⟨rfl, p1, p2⟩; have P1 := Lib.hid p1; have P2 := Lib.hid p2; clear p1 p2)
              | (at_builtin; refine wpList_append_own_none rfl (.tmp 29) (.tmp 32) 44 rfl W.heap.size 50 it 9 Try.underlying44 HT0.out (.slice av (dA s i).2.length cv) (dA s i).2.length (dsE (dA s i).2) rfl (own_fr2 HD.out.own P2.out (fun k e => HOUT.out _ k P2.out e)) rfl ?_))
            go_roundw
            case rel => exact ⟨i + 1, _, by push_cast; rfl, rfl, HI1.out, ⟨by rw [HA.out]; exact P1.out, by rw [HE.out]; exact own_fr2 HD.out.own P2.out (fun k e => HOUT.out _ k P2.out e), HD.out.fr.trans P2.out⟩⟩
            case measure => exact HMS.out
          · have HDF := Lib.hid (dline_f HD.out.cm HKI.out HL.out h0)
            have HE : Hid (dsE (dA s (i + 1)).2 = dsE (dA s i).2 ++ dsE (dQ (dA s i).1 i l.o).2.2 ∧ (dA s (i + 1)).2.length = (dA s i).2.length + l.o.length) := by
              refine ⟨?_, ?_⟩
              · rw [HA.out]; simp [dsE]
              · rw [HA.out, List.length_append, HDSL.out]
            have HLEN2 : Hid ((dsE (dQ (dA s i).1 i l.o).2.2).length = l.o.length * 9) := by
              show _ = _
              rw [← HDSL.out]
              generalize (dQ (dA s i).1 i l.o).2.2 = L
              induction L with
              | nil => rfl
              | cons a r ih => unfold dsE at ih ⊢; rw [List.flatMap_cons, List.length_append, ih]; show 9 + _ = (r.length + 1) * 9; omega
            have HONE := Lib.hid (dsE_one (dQ (dA s i).1 i l.o).2.2)
            have HMAX : Hid ((dA s i).2.length + l.o.length ≤ maxLen ∧ ((dA s i).2.length + l.o.length) * 72 ≤ 140737488355328) := ⟨by have := HCNT.out; unfold maxLen; omega, by have := HCNT.out; omega⟩
            generalize dsE (dQ (dA s i).1 i l.o).2.2 = NEW at HDF HE HLEN2 HONE
            clear h0
            go_wp2_with (first
              | (go_at_call 40; refine HS.out.mono ?_; rintro e w2 ⟨rfl, f2⟩; subst f2)
              | (go_at_call 45; refine HDF.out.mono ?_; rintro e w3 ⟨g3, c3, rfl, p1, p2, p3⟩; have P1 := Lib.hid p1; have P2 := Lib.hid p3; have PO := Lib.hid p2; clear p1 p2 p3)
              | (at_builtin; refine wpList_append_own _ rfl (.tmp 29) (.tmp 32) 44 rfl W.heap.size 50 it dz 9 72 Try.underlying44 HT0.out HT1.out HT2.out HT3.out rfl (by decide) (.slice av (dA s i).2.length cv) (dA s i).2.length (dsE (dA s i).2) rfl (own_fr2 HD.out.own P2.out (fun k e => HOUT.out _ k P2.out e)) ⟨g3, 0, none⟩ l.o.length c3 NEW rfl HLEN2.out (fun j u hu => by rw [Addr.add_mid, Nat.zero_add]; exact own_cells PO.out hu) HONE.out HMAX.out.1 HMAX.out.2 (by have := HD.out.fr.size; have := P2.out.size; omega) ?_; intro v4 w4 hown hgrow hnil; have HOA := Lib.hid hown; have HG := Lib.hid hgrow; clear hown hgrow hnil))
            go_roundw
            case rel =>
              have hfg : Fr (fun k => (Value.slice av (dA s i).2.length cv).ownBlock = some k) w3 w4 := Fr.grown HG.out (fun k e => e)
              refine ⟨i + 1, _, by push_cast; rfl, rfl, HI1.out, ⟨?_, ?_, ?_⟩⟩
              · rw [HA.out]; exact P1.out.fr hfg (fun k ok e => HOUT.out _ k P2.out e ok)
              · rw [HE.out.1, HE.out.2]; exact HOA.out
              · exact (HD.out.fr.trans P2.out).over hfg (fun k e => .inr (HD.out.own.lt k e).1)
            case measure => exact HMS.out
        · have HA := Lib.hid (dA_miss HL.out (.inr hz))
          have hzz : (sumL (dA s i).1 (i : Int) l.o == 0) = false := by simpa using hz
          generalize sumL (dA s i).1 (i : Int) l.o = zz at HS hzz
          clear hp hz
          go_wp2_with (go_at_call 40; refine HS.out.mono ?_; rintro e w2 ⟨rfl, f2⟩; subst f2)
          go_roundw
          case rel => exact ⟨i + 1, _, by push_cast; rfl, rfl, HI1.out, ⟨by rw [HA.out]; exact HD.out.cm, by rw [HA.out]; exact HD.out.own, HD.out.fr⟩⟩
          case measure => exact HMS.out
    · have hile : i = N := by omega
      have i1 : ¬ (i : Int) < (N : Nat) := by omega
      have HDE := HD.out
      rw [hile] at HDE
      have HDX := Lib.hid HDE
      clear hi HDE
      subst hile
      go_wp2
      go_ret
      exact ⟨_, rfl, HDX.out⟩
end Go.Proofs.Ytbnchmhhhildnaa
