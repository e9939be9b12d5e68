/- Package sched: Pick, where nothing differs, nobody is held and no thread ran yet. -/
import Derived.Test.YtjaaljcdaamcjaaGreatDs
namespace Go.Proofs.YtjaaljcdaamcjaaGreat
open Go.RowKit Go.Proofs.YtjaaljcdaamcjaaGreat.Pa
set_option linter.unusedVariables false

set_option maxRecDepth 100000 in
theorem reqseats_idle (W : World) (b off cap : Nat) (l : List Int) (h : NumsAt W b off l) (hall : ∀ x ∈ l, x = -1) (hl : l.length ≤ 65536) (f : Value) : Calls Tryz.prog 46 #[.slice (some ⟨b, off, none⟩) l.length cap, .int .i64 (l.length : Int), f] W fun e w' => (∃ v, e = .returned v) ∧ W = w' := by
  have H := Lib.hid h
  have HX := Lib.hid hall
  have l0 : (l.length : Int) ≤ 65536 := by omega
  clear h hall hl
  go_enter Tryz.func46, Tryz.ntmps46
  go_upto_region 2 with (go_at_call 58; refine (require_ok _ _).mono ?_; rintro e w2 ⟨rfl, f2⟩; subst f2)
  go_loopw [15] (fun vi wr => ∃ i : Nat, vi = .int .i64 (i : Int) ∧ (i : Int) ≤ l.length ∧ Hid (wr = W)) (fun vi _ => l.length - (intOf vi).toNat)
  case atStart => exact ⟨0, rfl, by omega, rfl⟩
  case round =>
    obtain ⟨i, rfl, i1, HI⟩ := hrel
    have hW := HI.out
    subst hW
    have i0 : (0 : Int) ≤ i := by omega
    by_cases hlt : (i : Int) < l.length
    · have HMS : Hid (l.length - (intOf (Value.int IntKind.i64 ((i : Int) + 1))).toNat < l.length - (intOf (Value.int IntKind.i64 (i : Int))).toNat) := by
        show _ < _
        simp only [intOf]
        omega
      have hin : i < l.length := by omega
      have c0 : wr.cell? ⟨b, off + i, none⟩ = some (.int .i64 (-1)) := by
        have := H.out.2 i _ (List.getElem?_eq_getElem hin)
        rw [HX.out _ (List.getElem_mem hin)] at this
        exact this
      clear hin
      go_wp2
      go_roundw
      case rel => exact ⟨i + 1, by push_cast; rfl, by push_cast; omega, trivial⟩
      case measure => exact HMS.out
    · clear i1
      go_wp2
      go_end0
      exact ⟨⟨_, rfl⟩, rfl⟩
section
variable {S : Nat} {s : ST} {C : CF} {T : Nat} {L : List Ch} {ls : Nat → List Nat} {mk : Nat → Nat} {en : Nat → Option En} {W W' : World}
set_option maxRecDepth 100000 in
set_option maxHeartbeats 4000000 in
theorem pick_flat (h : SI S s C T L ls mk en W) (n k : Nat) (P0 : Int) (ht : s.told ≤ n) (h0 : T ≤ n) (h1 : n ≤ 1099511627776) (bu : BudOk C) (hk : k < C.np) (ids : List Nat) (hids : Rd.order ls = ids) (hl : ids.length < 20) (hpos : 0 < ids.length) (hev : Even s en k P0 ids)
    (hnew : ∀ t ∈ ids, ∀ e, en t = some e → e.last = -1 ∧ 0 ≤ e.par.msk ∧ e.par.msk < 256) (hb ho cap : Nat) (held : List Int) (hh : NumsAt W hb ho held) (hbo : ∀ j, OW S s j → j ≠ hb) (hall : ∀ x ∈ held, x = -1) (hhl : held.length = s.pr) (hp8 : 0 < s.pr ∧ s.pr ≤ 8) :
    Calls Tryz.prog 18 #[.pointer (some ⟨S, 0, none⟩), .int .i64 (n : Int), .slice (some ⟨hb, ho, none⟩) held.length cap] W fun e w' => ∃ b cp, e = .returned (.tuple #[.slice (some ⟨b, 0, none⟩) held.length cp, .int .i64 0]) ∧ W.heap.size ≤ b ∧ StA w' b (seatAll held.length (ids.map (cdOf C L n k en)) held) ∧ (∃ T', T' ≤ n ∧ SI S { s with told := n } C T' L ls mk en w') ∧ Fr (fun j => OW S s j) W w' := by
  have hmf := hmf_any
  have HS := Lib.hid h
  have HTO := Lib.hid ht
  have HT := Lib.hid (time_ok n h1)
  have HBO := Lib.hid hbo
  have HH := Lib.hid hh
  have HHL := Lib.hid hhl
  have HP8 := Lib.hid hp8
  have HRS : Hid (∀ w, NumsAt w hb ho held → ∀ f, Calls Tryz.prog 46 #[.slice (some ⟨hb, ho, none⟩) held.length cap, .int .i64 (s.pr : Int), f] w fun e w' => (∃ v, e = .returned v) ∧ w = w') := fun w hw f => by
    have := reqseats_idle w hb ho cap held hw hall (by omega) f
    rw [hhl] at this ⊢
    exact this
  have HRA : Hid (∀ w s', SI S s' C T L ls mk en w → s'.th = s.th → Calls Tryz.prog 52 #[.pointer (some ⟨S, 0, none⟩), .int .i64 (n : Int)] w fun e w' => ∃ R, e = .returned (.slice (some ⟨R, 0, none⟩) ids.length ids.length) ∧ w.heap.size ≤ R ∧ Rk w' R ids.length (ids.map (cdOf C L n k en)) ids.length ∧ (∃ T', T' ≤ n ∧ SI S s' C T' L ls mk en w') ∧ Fr (fun j => j = s'.mb) w w') := fun w s' q e => ranked_flat q n k P0 h0 h1 bu hk ids hids hl hpos (by unfold Even at hev ⊢; rw [e]; exact hev)
  have HAS : Hid (∀ w R, Rk w R ids.length (ids.map (cdOf C L n k en)) ids.length → NumsAt w hb ho held → Calls Tryz.prog 51 #[.slice (some ⟨R, 0, none⟩) ids.length ids.length, .slice (some ⟨hb, ho, none⟩) held.length cap] w fun e w' => ∃ b cp, e = .returned (.slice (some ⟨b, 0, none⟩) held.length cp) ∧ w.heap.size ≤ b ∧ StA w' b (seatAll held.length (ids.map (cdOf C L n k en)) held) ∧ Fr Non w w') := fun w R q hw => assign_new w R ids.length _ q (List.length_map ..) (by omega) (fun c hc => by
      obtain ⟨t, ht, rfl⟩ := List.mem_map.1 hc
      obtain ⟨b, e, _, _, he, _⟩ := hev t ht
      have := hnew t ht e he
      unfold cdOf
      rw [he]
      exact this) hb ho cap held hw hall (by omega) ids.length
  clear h ht h0 h1 bu hk hids hl hpos hev hnew hh hbo hall hhl hp8
  go_enter_defers Tryz.func18, Tryz.ntmps18
  go_upto_region 1 with (fail)
  have HF1 : Hid (Fr Non W ((W.alloc (.cells #[.pointer (some ⟨S, 0, none⟩)] 27)).alloc (.cells #[.int .i64 0] 28))) := frA (frA (Fr.refl _ _))
  have HX1 : Hid (RowAt ((W.alloc (.cells #[.pointer (some ⟨S, 0, none⟩)] 27)).alloc (.cells #[.int .i64 0] 28)) W.heap.size 27 #[.pointer (some ⟨S, 0, none⟩)]) := (RowAt.new W _ _).fr (Fr.alloc Non _ _) id
  have HY1 : Hid (RowAt ((W.alloc (.cells #[.pointer (some ⟨S, 0, none⟩)] 27)).alloc (.cells #[.int .i64 0] 28)) (W.heap.size + 1) 28 #[.int .i64 0]) := by
    have := RowAt.new (W.alloc (.cells #[.pointer (some ⟨S, 0, none⟩)] 27)) 28 #[.int .i64 0]
    rw [show (W.alloc (.cells #[.pointer (some ⟨S, 0, none⟩)] 27)).heap.size = W.heap.size + 1 from by simp] at this
    exact this
  generalize World.alloc (World.alloc W _) _ = W1 at HF1 HX1 HY1 ⊢
  obtain ⟨x, hx⟩ : ∃ x, W.heap.size = x := ⟨_, rfl⟩
  have HXX := Lib.hid hx
  rw [hx] at HX1 HY1 ⊢
  clear hx
  generalize hy : x + 1 = y at HY1 ⊢
  have HYY := Lib.hid hy
  clear hy
  have HS1 := Lib.hid (HS.out.fr HF1.out (fun _ _ e => e))
  have HO : Hid (∀ j, OW S s j → ¬ j = x ∧ ¬ j = y) := fun j hj => by have := HS.out.own_lt hj; have := HXX.out; have := HYY.out; exact ⟨by omega, by omega⟩
  have c0 : W1.cell? ⟨x, 0, none⟩ = some (.pointer (some ⟨S, 0, none⟩)) := HX1.out.cell 0
  have c1 : W1.cell? ⟨S, 0, none⟩ = some (.int .i64 (s.pr : Int)) := HS1.out.row.pr
  have HH1 := Lib.hid (HH.out.fr HF1.out id)
  go_upto_region 6 with (first
    | (go_at_call 44; refine (made_ok HS1.out.row).mono ?_; rintro e w2 ⟨rfl, f2⟩; subst f2)
    | (go_at_call 45; refine (HT.out _).mono ?_; rintro e w2 ⟨rfl, f2⟩; subst f2)
    | (go_at_call 46; refine (HRS.out _ HH1.out _).mono ?_; rintro e w2 ⟨⟨v, rfl⟩, f2⟩; subst f2)
    | (go_at_call 50; refine (tell_sched HS1.out n HTO.out).mono ?_; rintro e W2 ⟨⟨v, rfl⟩, hs2, f2⟩; have HS2 := Lib.hid hs2; have F2 := Lib.hid f2; clear hs2 f2))
  clear c0 c1
  have c0 : W2.cell? ⟨x, 0, none⟩ = some (.pointer (some ⟨S, 0, none⟩)) := (HX1.out.fr F2.out (fun e => (HO.out S (.inl rfl)).1 e.symm)).cell 0
  have HY2 := Lib.hid (HY1.out.fr F2.out (fun e => (HO.out S (.inl rfl)).2 e.symm))
  have HH2 := Lib.hid (HH1.out.fr F2.out (fun e => HBO.out S (.inl rfl) e.symm))
  have HSM : Hid (∀ j, j = s.mb → OW S s j) := fun j e => .inr (.inl e)
  go_wp2_with (first
    | (go_at_call 52; refine (HRA.out _ _ HS2.out rfl).mono ?_; rintro e W3 ⟨R, rfl, hr1, hr2, hr3, f3⟩; have HR1 := Lib.hid hr1; have HR2 := Lib.hid hr2; have HR3 := Lib.hid hr3; have F3 : Hid (Fr (fun j => j = s.mb) W2 W3) := f3; clear hr1 hr2 hr3 f3; have HH3 := Lib.hid (HH2.out.fr F3.out (fun e => HBO.out _ (HSM.out _ e) rfl)))
    | (go_at_call 51; refine (HAS.out _ _ HR2.out HH3.out).mono ?_; rintro e W4 ⟨b, cp, rfl, hb1, hb2, f4⟩; have HB1 := Lib.hid hb1; have HB2 := Lib.hid hb2; have F4 := Lib.hid f4; clear hb1 hb2 f4; have HY4 := Lib.hid ((HY2.out.fr F3.out (fun e => (HO.out _ (HSM.out _ e)).2 rfl)).fr F4.out id); have y0 : W4.cell? ⟨y, 0, none⟩ = some (.int .i64 0) := HY4.out.cell 0; have y1 : W4.frozen? ⟨y, 0, none⟩ = false := HY4.out.frozen 0))
  refine leaves_cons (f := 43) (args := #[.pointer (some ⟨y, 0, none⟩)]) (by simp) (by simp [go_sem]) ?_
  refine (endPick ⟨y, 0, none⟩ 0 _ (by simp [go_sem, y0]) (by simp [go_sem, y1])).mono ?_
  rintro e u' w'' ⟨rfl, rfl, rfl⟩
  simp [Leaves, settle, results, Tryz.results18, go_sem, y0]
  have g1 := HB1.out
  have g2 := HY1.out.lt
  have g3 := F2.out.size
  have g4 := F3.out.size
  have g5 := HF1.out.size
  have g6 := HXX.out
  have g7 := HYY.out
  have hyf : Fr (fun j => j = y) W4 ((W4.setCell ⟨y, 0, none⟩ (.int .i64 0)).setCell ⟨y, 0, none⟩ (.int .i64 0)) := frY (frY (Fr.refl _ _))
  obtain ⟨T', hT', hs3⟩ := HR3.out
  refine ⟨by omega, HB2.out.fr hyf (by show ¬ (b = y); omega), ⟨T', hT', (hs3.fr F4.out (fun _ _ e => e)).fr hyf (fun j hj e => (HO.out j hj).2 e)⟩, ?_⟩
  have hf : Fr (fun j => OW S s j) W W4 := (((HF1.out.mono (fun _ _ e => (nomatch e))).trans (F2.out.mono (fun j _ e => .inl e))).trans (F3.out.mono (fun j _ e => HSM.out j e))).trans (F4.out.mono (fun _ _ e => (nomatch e)))
  exact Fr.over hf hyf (fun i e => .inr (by have e2 : i = y := e; omega))
end
end Go.Proofs.YtjaaljcdaamcjaaGreat
