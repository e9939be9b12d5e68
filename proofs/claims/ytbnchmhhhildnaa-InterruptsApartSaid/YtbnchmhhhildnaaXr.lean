/- Interrupts: a line is delivered. -/
import Derived.Test.YtbnchmhhhildnaaXq
namespace Go.Proofs.Ytbnchmhhhildnaa
open Go.RowKit Go.Maps
set_option linter.unusedVariables false

/-- A delivery. -/
structure Dv where
  a : Int
  n : Int
  t : Int
  k : Int
  c : Int
  p : Int
  d : Int
  v : Int
  w : Bool
def dE (x : Dv) : List Value := [.int .i64 x.a, .int .i64 x.n, .int .i64 x.t, .int .i64 x.k, .int .i64 x.c, .int .i64 x.p, .int .i64 x.d, .int .i64 x.v, .bool x.w]
def dsE (l : List Dv) : List Value := l.flatMap dE
theorem dsE_app (l : List Dv) (x : Dv) : dsE (l ++ [x]) = dsE l ++ dE x := by simp [dsE]
theorem dv_one (x : Dv) : ∀ u ∈ dE x, u.oneCell' = true := by simp [dE, Value.oneCell']
abbrev dz : Value := .agg #[.int .i64 0, .int .i64 0, .int .i64 0, .int .i64 0, .int .i64 0, .int .i64 0, .int .i64 0, .int .i64 0, .bool false]
theorem info_dv : (Try.prog.info? 50).map (fun i => (i.zero, i.size, i.bytes)) = some (some dz, 9, 72) := by kernel_rfl
/-- What one delivery makes of counts and threads. -/
noncomputable def dOne (att : TS) (n : Int) (q : (Int × Int → Int) × (Int → Int) × List Dv) (x : Int) : (Int × Int → Int) × (Int → Int) × List Dv :=
  ((if ((get att x).getD tz).k = 0 then q.1 else fun z => upd q.1 (n, x) (q.1 (n, x) + 1) z), wkT q.2.1 ((get att x).getD tz).k ((get att x).getD tz).c,
    q.2.2 ++ [⟨x, n, ((get att x).getD tz).t, ((get att x).getD tz).k, ((get att x).getD tz).c, ((get att x).getD tz).p, ((get att x).getD tz).d, ((get att x).getD tz).v, wkB q.2.1 ((get att x).getD tz).k ((get att x).getD tz).c⟩])
noncomputable def dQ (s : IS) (n : Int) (o : List Int) : (Int × Int → Int) × (Int → Int) × List Dv := o.foldl (dOne s.att n) (s.cn, s.th, [])
theorem dQ_app (s : IS) (n : Int) (o : List Int) (x : Int) : dQ s n (o ++ [x]) = dOne s.att n (dQ s n o) x := by simp [dQ]
theorem dQ_take {s : IS} {n : Int} {o : List Int} {i : Nat} {x : Int} (h : o[i]? = some x) : dQ s n (o.take (i + 1)) = dOne s.att n (dQ s n (o.take i)) x := by
  rw [List.take_add_one, h]; exact dQ_app s n _ x
theorem dQ_len (s : IS) (n : Int) (o : List Int) : (dQ s n o).2.2.length = o.length := by
  have key : ∀ (o : List Int) q, (o.foldl (dOne s.att n) q).2.2.length = q.2.2.length + o.length := fun o => by
    induction o with
    | nil => intro q; rfl
    | cons a r ih => intro q; rw [List.foldl_cons, ih]; simp [dOne]; omega
  rw [dQ, key]; simp
theorem dQ_cn (s : IS) (n : Int) (o : List Int) (k : Int × Int) (h : ∀ x ∈ o, k ≠ (n, x)) : (dQ s n o).1 k = s.cn k := by
  have key : ∀ (o : List Int) q, (∀ x ∈ o, k ≠ (n, x)) → (o.foldl (dOne s.att n) q).1 k = q.1 k := fun o => by
    induction o with
    | nil => intro q _; rfl
    | cons a r ih =>
      intro q h
      rw [List.foldl_cons, ih _ (fun x hx => h x (by simp [hx]))]
      show (if _ then q.1 else _) k = _
      split
      · rfl
      · exact upd_other (h a (by simp))
  exact key o _ h
/-- Where a delivery's loop stands. -/
structure DL (W : World) (O : Nat → Prop) (B : Nat) (y : LY) (s : IS) (n : Nat) (o : List Int) (i : Nat) (v : Value) (wr : World) : Prop where
  cm : CM wr O B y { s with cn := (dQ s n (o.take i)).1, th := (dQ s n (o.take i)).2.1 }
  own : wr.ownsRow W.heap.size 50 9 v i (dsE (dQ s n (o.take i)).2.2)
  fr : Fr O W wr
set_option maxRecDepth 100000 in
set_option maxHeartbeats 8000000 in
theorem dline_some {W : World} {O : Nat → Prop} {B : Nat} {y : LY} {s : IS} (h : CM W O B y s) (hk : IOk s) {n : Nat} {l : IL} (hl : s.ls[n]? = some l) (hne : l.o ≠ []) :
    Calls Try.prog 45 #[.pointer (some ⟨B, 0, none⟩), .int .i64 (n : Int)] W fun e w' => ∃ v, e = .returned v ∧ DL W O B y (setLs s n { l with p := false }) n l.o l.o.length v w' := by
  obtain ⟨it, hi0, hz0, hz1, hz2⟩ := info_parts info_dv
  have HT0 := Lib.hid hi0
  have HT1 := Lib.hid hz0
  have HT2 := Lib.hid hz1
  have HT3 := Lib.hid hz2
  clear hi0 hz0 hz1 hz2
  obtain ⟨a0, cap, hv⟩ := h.vs hl
  have hn := (List.getElem?_eq_some_iff.1 hl).1
  have n0 : (0 : Int) ≤ (n : Int) := by omega
  have n1 : (n : Int) < (s.ls.length : Nat) := by omega
  obtain ⟨g, cap0, e⟩ := own_slice2 (h.ord n l _ hl hv) (fun e => hne (List.length_eq_zero_iff.1 e))
  cases e
  have c0 : W.cell? ⟨B, 0, none⟩ = some (.slice (some ⟨y.b, 0, none⟩) s.ls.length y.cap) := h.row.cell 0
  have q1 : W.cell? ⟨y.b, n * 4 + 2, none⟩ = some (.bool l.p) := (h.lines.cells hl hv).2.2.1
  have f1 : W.frozen? ⟨y.b, n * 4 + 2, none⟩ = false := h.lines.frozen _
  have q2 : W.cell? ⟨y.b, n * 4 + 1, none⟩ = some (.slice (some ⟨g, 0, none⟩) l.o.length cap) := (h.lines.cells hl hv).2.1
  have HM1 : Hid (CM (W.setCell ⟨y.b, n * 4 + 2, none⟩ (.bool false)) O B y (setLs s n { l with p := false })) := h.setL hl (.inl rfl) (.bool false) { l with p := false } rfl rfl (.inl ⟨rfl, rfl⟩) (.inr ⟨by omega, rfl⟩)
  have HF1 : Hid (Fr O W (W.setCell ⟨y.b, n * 4 + 2, none⟩ (.bool false))) := Fr.set _ _ _ _ h.ob
  have HTOP := Lib.hid h.top
  have HK := Lib.hid (hk.setL hl (l' := { l with p := false }) rfl)
  have hl' : (setLs s n { l with p := false }).ls[n]? = some { l with p := false } := by show (s.ls.set n _)[n]? = _; rw [List.getElem?_set_self hn]
  have HL := Lib.hid hl'
  have HV := Lib.hid hv
  have HLN : Hid (l.o.length ≤ 100) := hk.olen hl
  have HL0 : Hid (0 < l.o.length) := List.length_pos_iff.2 hne
  have hlz : ((l.o.length : Int) == 0) = false := by have := HL0.out; simp; omega
  generalize setLs s n { l with p := false } = s1 at HM1 HK HL ⊢
  generalize ho : l.o = o at q2 HL HV HLN HL0 hlz ⊢
  clear h hk hl hne hv hl' ho hn
  go_enter Try.func45, Try.ntmps45
  go_wp2
  go_loopw [6, 8, 9, 37] (fun v6 v8 v9 vi wr => ∃ (i : Nat) (v : Value), vi = .int .i64 i ∧ Hid (v6 = v ∧ i ≤ o.length ∧ DL W O B y s1 n o i v wr)) (fun _ _ _ vi _ => o.length - (intOf vi).toNat)
  case atStart => exact ⟨0, _, rfl, rfl, Nat.zero_le _, ⟨HM1.out, World.ownsRow_nil _ _ _ _, HF1.out⟩⟩
  case round =>
    obtain ⟨i, v, rfl, HR⟩ := hrel
    obtain ⟨e6, hil, hDL⟩ := HR.out
    subst e6
    have i0 : (0 : Int) ≤ i := by omega
    have i2 : (i : Int) ≤ 1000 := by have := HLN.out; omega
    obtain ⟨av, cv, hvv⟩ := own_shape hDL.own
    subst hvv
    have HD := Lib.hid hDL
    clear HR hDL
    by_cases hi : i < o.length
    · have i1 : (i : Int) < (o.length : Nat) := by omega
      have hx := List.getElem?_eq_getElem hi
      generalize o[i] = x at hx
      have hmem : x ∈ o := List.mem_of_getElem? hx
      obtain ⟨t, ht, htl⟩ := (HK.out.ord n _ x HL.out).1 hmem
      have hxW : isW x := HK.out.oW HL.out hmem
      have hnW : isW (n : Int) := HK.out.nW HL.out
      have HCW : Hid (t.k = 4 → isW t.c) := fun e => by have := (HK.out.lin x t ht).2.2 e; exact wf6 (by omega) (by omega)
      have qx : wr.cell? ⟨g, i, none⟩ = some (.int .i64 x) := OL.cell (HD.out.cm.ord n _ _ HL.out HV.out) hx
      have b1 : wr.cell? ⟨B, 1, none⟩ = some (.map (some y.a)) := HD.out.cm.row.cell 1
      have b2 : wr.cell? ⟨B, 2, none⟩ = some (.map (some y.c)) := HD.out.cm.row.cell 2
      have hlk := HD.out.cm.ma.look hxW
      change Sem.run _ _ _ = Result.ok (tmE ((get s1.att x).getD tz)) _ at hlk
      rw [ht] at hlk
      have HLK : Hid ((Instr.lookup 58 (.map (some y.a)) (.int .i64 x) false).run Try.prog wr = .ok (tmE t) wr) := hlk
      have HQT := Lib.hid (dQ_take (s := s1) (n := (n : Int)) hx)
      have HCN : Hid ((dQ s1 n (o.take i)).1 ((n : Int), x) = s1.cn ((n : Int), x)) := dQ_cn _ _ _ _ (fun z hz e => by
        have e2 : x = z := congrArg Prod.snd e
        subst e2
        obtain ⟨j, hj⟩ := List.getElem?_of_mem hz
        have hji := (List.getElem?_eq_some_iff.1 hj).1
        rw [List.length_take] at hji
        rw [List.getElem?_take, if_pos (by omega)] at hj
        have := (List.getElem?_inj (List.getElem?_eq_some_iff.1 hj).1 (HK.out.dup n _ HL.out)).1 (hj.trans hx.symm)
        omega)
      have HCB : Hid (0 ≤ s1.cn ((n : Int), x) ∧ s1.cn ((n : Int), x) ≤ 1000) := ⟨HK.out.c0 _, HK.out.c1 _⟩
      have HTT : Hid ((get s1.att x).getD tz = t) := by show _ = _; rw [ht]; rfl
      have HI1 : Hid (i + 1 ≤ o.length) := hi
      have HMS : Hid (o.length - (intOf (Value.int IntKind.i64 ((i : Int) + 1))).toNat < o.length - (intOf (Value.int IntKind.i64 (i : Int))).toNat) := by
        show _ < _
        simp only [intOf]
        omega
      have HWK := Lib.hid (And.intro hnW hxW)
      have HHA := Lib.hid (handler_any t)
      unfold tmE at HHA
      clear hi hx hmem ht hlk hxW hnW htl
      go_upto_region 10 with (first
        | (at_lookup; refine wpList_look rfl _ _ _ false rfl _ _ rfl rfl _ HLK.out ?_; unfold tmE; go_frame)
        | ((with_reducible refine st_gate ?_); refine wpList_store_row rfl 87 (Operand.tmp 9) (Operand.tmp 46) rfl wr.heap.size (tcs t) rfl rfl _ (tcs tz) (RowAt.new wr _ _) (tcs_size t) rfl (tcs_one t) ?_; rw [World.setRow_alloc_new]))
      have HX0 := Lib.hid (RowAt.new wr 87 (tcs t))
      have HF0 : Hid (Fr No wr (wr.alloc (.cells (tcs t) 87))) := Fr.alloc _ _ _
      generalize World.alloc wr _ = W3 at HX0 HF0 ⊢
      generalize hX : wr.heap.size = X at HX0 ⊢
      have HXX := Lib.hid hX
      clear hX qx b1
      have HM3 := Lib.hid (HD.out.cm.no HF0.out)
      have c2 : W3.cell? ⟨B, 2, none⟩ = some (.map (some y.c)) := HM3.out.row.cell 2
      clear b2
      have HXT : Hid (X ≠ y.t ∧ ∀ k, (Value.slice av i cv).ownBlock = some k → k ≠ X) := ⟨by have := HTOP.out _ HD.out.cm.ot; have := HD.out.fr.size; have := HXX.out; omega, fun k e => by have := (HD.out.own.lt k e).2; have := HXX.out; omega⟩
      have HXT2 : Hid (∀ k, (Value.slice av i cv).ownBlock = some k → k ≠ y.t) := fun k e => by have := (HD.out.own.lt k e).1; have := HTOP.out _ HD.out.cm.ot; omega
      have HXC : Hid (X ≠ y.c ∧ ∀ k, (Value.slice av i cv).ownBlock = some k → k ≠ y.c) := ⟨by have := HTOP.out _ HD.out.cm.oc; have := HD.out.fr.size; have := HXX.out; show ¬ _ = _; omega, fun k e => by have := (HD.out.own.lt k e).1; have := HTOP.out _ HD.out.cm.oc; omega⟩
      have HFW := Lib.hid (HD.out.fr.trans HF0.out.any)
      have HOW3 := Lib.hid (own_fr2 HD.out.own HF0.out (fun _ _ => id))
      have HT6 : Hid (∀ (gg cap' : Nat) (cn' : Int × Int → Int) (W6 W8 w1 : World), cn' = (dOne s1.att n (dQ s1 n (o.take i)) x).1 → Fr O W W6 → CM W8 O B y { s1 with cn := cn', th := wkT (dQ s1 n (o.take i)).2.1 t.k t.c } → Fr (fun j => j = y.t) W6 W8 → Fr (fun k => (Value.slice av i cv).ownBlock = some k) W8 w1 → w1.ownsRow W.heap.size 50 9 (.slice (some ⟨gg, 0, none⟩) (i + 1) cap') (i + 1) (dsE (dQ s1 n (o.take i)).2.2 ++ dE ⟨x, n, t.t, t.k, t.c, t.p, t.d, t.v, wkB (dQ s1 n (o.take i)).2.1 t.k t.c⟩) → DL W O B y s1 n o (i + 1) (.slice (some ⟨gg, 0, none⟩) (i + 1) cap') w1) := fun gg cap' cn' W6 W8 w1 hcn hF hM hF8 hFB hown => by
        have hQ2 : (dQ s1 n (o.take (i + 1))).2.1 = wkT (dQ s1 n (o.take i)).2.1 t.k t.c := by rw [HQT.out]; unfold dOne; rw [HTT.out]
        have hQ3 : (dQ s1 n (o.take (i + 1))).2.2 = (dQ s1 n (o.take i)).2.2 ++ [⟨x, n, t.t, t.k, t.c, t.p, t.d, t.v, wkB (dQ s1 n (o.take i)).2.1 t.k t.c⟩] := by rw [HQT.out]; unfold dOne; rw [HTT.out]
        refine ⟨?_, ?_, ?_⟩
        · rw [hQ2, HQT.out, ← hcn]
          exact hM.fr hFB (fun k ok e => by have := (HD.out.own.lt k e).1; have := HTOP.out k ok; omega)
        · rw [hQ3, dsE_app]; exact hown
        · exact (hF.trans (hF8.mono (fun k _ e => by subst e; exact hM.ot))).over hFB (fun k e => .inr (HD.out.own.lt k e).1)
      by_cases hh : t.k = 0
      · have hh1 : (t.k == 0) = true := by simpa using hh
        rw [hh1] at HHA
        have HE1 : Hid ((dQ s1 n (o.take i)).1 = (dOne s1.att n (dQ s1 n (o.take i)) x).1) := by show _ = _; unfold dOne; rw [HTT.out, if_pos hh]
        generalize hDS : dsE (dQ s1 n (o.take i)).2.2 = DS6 at HOW3 HT6
        generalize hth : (dQ s1 n (o.take i)).2.1 = th6 at HM3 HT6
        clear hDS hth hh hh1 c2
        go_upto_region 12 with (first
          | ((with_reducible refine ld_gate ?_); refine wpList_load_mid rfl 87 (Operand.tmp 9) rfl X 0 rfl [_, _, _, _, _, _, _] _ HX0.out.range Try.underlying87 rfl size_att ?_; go_frame)
          | (go_at_call 58; refine (HHA.out _).mono ?_; rintro e W6 ⟨rfl, f6⟩; have F6 := Lib.hid f6; clear f6))
        have HM6 := Lib.hid (HM3.out.no F6.out)
        have HX6 := Lib.hid (HX0.out.fr F6.out id)
        have HF6 := Lib.hid (HFW.out.trans F6.out.any)
        have HOWN := Lib.hid (own_fr2 HOW3.out F6.out (fun _ _ => id))
        have HEND := Lib.hid (fun (gg cap' : Nat) (W8 w1 : World) => HT6.out gg cap' _ W6 W8 w1 HE1.out HF6.out)
        have HCM6 := Lib.hid (HM6.out)
        have HWK := Lib.hid (fun w (f : Fr No W6 w) => wake_ok (HM6.out.no f) (k := t.k) (c := t.c) (p := t.p) (d := t.d) (v := t.v) HCW.out)
        unfold evV at HWK
        have x1 : W6.cell? ⟨X, 1, none⟩ = some (.int .i64 t.t) := HX6.out.cell 1
        have x2 : W6.cell? ⟨X, 2, none⟩ = some (.int .i64 t.k) := HX6.out.cell 2
        have x3 : W6.cell? ⟨X, 3, none⟩ = some (.int .i64 t.c) := HX6.out.cell 3
        have x4 : W6.cell? ⟨X, 4, none⟩ = some (.int .i64 t.p) := HX6.out.cell 4
        have x5 : W6.cell? ⟨X, 5, none⟩ = some (.int .i64 t.d) := HX6.out.cell 5
        have x6 : W6.cell? ⟨X, 6, none⟩ = some (.int .i64 t.v) := HX6.out.cell 6
        have HKP : Hid (∀ w', Fr (fun k => k = y.t ∨ (Value.slice av i cv).ownBlock = some k) W6 w' → w'.cell? ⟨X, 1, none⟩ = some (.int .i64 t.t) ∧ w'.cell? ⟨X, 2, none⟩ = some (.int .i64 t.k) ∧ w'.cell? ⟨X, 3, none⟩ = some (.int .i64 t.c) ∧ w'.cell? ⟨X, 4, none⟩ = some (.int .i64 t.p) ∧ w'.cell? ⟨X, 5, none⟩ = some (.int .i64 t.d) ∧ w'.cell? ⟨X, 6, none⟩ = some (.int .i64 t.v)) := fun w' f => by
          have hx := HX6.out.fr f (fun e => e.elim (fun e => by have := HXT.out.1; omega) (fun e => HXT.out.2 X e rfl))
          exact ⟨hx.cell 1, hx.cell 2, hx.cell 3, hx.cell 4, hx.cell 5, hx.cell 6⟩
        have HMAX : Hid (i + 1 ≤ maxLen ∧ (i + 1) * 72 ≤ 140737488355328) := ⟨by have := HLN.out; have := HI1.out; unfold maxLen; omega, by have := HLN.out; have := HI1.out; omega⟩
        have HONE := Lib.hid (dv_one ⟨x, (n : Int), t.t, t.k, t.c, t.p, t.d, t.v, wkB th6 t.k t.c⟩)
        unfold dE at HONE
        go_region_held_law (fun w' => w'.cell? ⟨X, 1, none⟩ = some (.int .i64 t.t) ∧ w'.cell? ⟨X, 2, none⟩ = some (.int .i64 t.k) ∧ w'.cell? ⟨X, 3, none⟩ = some (.int .i64 t.c) ∧ w'.cell? ⟨X, 4, none⟩ = some (.int .i64 t.p) ∧ w'.cell? ⟨X, 5, none⟩ = some (.int .i64 t.d) ∧ w'.cell? ⟨X, 6, none⟩ = some (.int .i64 t.v))
          (first | (exact HKP.out _ (Fr.drew _ _)) | (exact HKP.out _ FA.out) | (exact HKP.out _ (F8.out.mono (fun _ _ e => .inl e))) | (exact HKP.out _ ((F8.out.mono (fun _ _ e => .inl e)).trans (Fr.alloc _ _ _))) | (exact HKP.out _ (((F8.out.mono (fun _ _ e => .inl e)).trans (Fr.alloc _ _ _)).trans (Fr.drew _ _))))
          (first
            | (go_at_call 59; refine (HWK.out (World.drew W6) (Fr.drew No _)).mono ?_; rintro r W8 ⟨rfl, hs8, f8⟩; have F8 : Hid (Fr (fun j => j = y.t) W6 W8) := (Fr.drew _ _).trans f8; have HS8 := Lib.hid hs8; clear f8 hs8)
            | (refine step_append_lies (W8.alloc (.cells #[.int .i64 x, .int .i64 (n : Int), .int .i64 t.t, .int .i64 t.k, .int .i64 t.c, .int .i64 t.p, .int .i64 t.d, .int .i64 t.v, .bool (wkB th6 t.k t.c)] 50)) rfl (.tmp 61) (.tmp 73) 44 rfl W.heap.size 50 it dz 9 72 Try.underlying44 HT0.out HT1.out HT2.out HT3.out rfl (by decide) (.slice av i cv) i DS6 rfl ((own_fr2 HOWN.out F8.out (fun k e e2 => HXT2.out k e e2)).alloc _) ⟨W8.heap.size, 0, none⟩ 1 1 [.int .i64 x, .int .i64 (n : Int), .int .i64 t.t, .int .i64 t.k, .int .i64 t.c, .int .i64 t.p, .int .i64 t.d, .int .i64 t.v, .bool (wkB th6 t.k t.c)] rfl rfl (fun j u hu => World.news_of_block (cs := #[.int .i64 x, .int .i64 (n : Int), .int .i64 t.t, .int .i64 t.k, .int .i64 t.c, .int .i64 t.p, .int .i64 t.d, .int .i64 t.v, .bool (wkB th6 t.k t.c)]) (t := 50) (fr := (0, 0)) (RowAt.new W8 _ _) j u hu) HONE.out (by decide) HMAX.out.1 HMAX.out.2 (by have := HF6.out.size; have := F8.out.size; simp; omega) _ rfl ?_; intro gg cap' w1 hown hgrow hat hlt2; have FA : Hid (Fr (fun k => k = y.t ∨ (Value.slice av i cv).ownBlock = some k) W6 w1) := ((F8.out.mono (fun _ _ e => .inl e)).trans (Fr.alloc _ _ _)).trans (Fr.grown hgrow (fun k e => .inr e)); have FB : Hid (Fr (fun k => (Value.slice av i cv).ownBlock = some k) W8 w1) := (Fr.alloc _ _ _).trans (Fr.grown hgrow (fun k e => e)); have HOA := Lib.hid hown; clear hown hgrow hat hlt2))
        all_goals (
          clear x1 x2 x3 x4 x5 x6
          go_wp2
          go_roundw
          case rel => exact ⟨i + 1, _, by push_cast; rfl, rfl, HI1.out, HEND.out _ _ _ _ HS8.out F8.out FB.out HOA.out⟩
          case measure => exact HMS.out)
      · have hh1 : (t.k == 0) = false := by simpa using hh
        rw [hh1] at HHA
        have HE1 : Hid ((fun z => upd (dQ s1 n (o.take i)).1 ((n : Int), x) ((dQ s1 n (o.take i)).1 ((n : Int), x) + 1) z) = (dOne s1.att n (dQ s1 n (o.take i)) x).1) := by show _ = _; unfold dOne; rw [HTT.out, if_neg hh]
        generalize hDS : dsE (dQ s1 n (o.take i)).2.2 = DS6 at HOW3 HT6
        generalize hth : (dQ s1 n (o.take i)).2.1 = th6 at HM3 HT6
        clear hDS hth hh hh1
        go_upto_region 11 with (first
          | ((with_reducible refine ld_gate ?_); refine wpList_load_mid rfl 87 (Operand.tmp 9) rfl X 0 rfl [_, _, _, _, _, _, _] _ HX0.out.range Try.underlying87 rfl size_att ?_; go_frame)
          | (go_at_call 58; refine (HHA.out _).mono ?_; rintro e W4 ⟨rfl, f4⟩; have F4 := Lib.hid f4; clear f4))
        clear c2
        have HM4 := Lib.hid (HM3.out.no F4.out)
        have HX4 := Lib.hid (HX0.out.fr F4.out id)
        have HF4 := Lib.hid (HFW.out.trans F4.out.any)
        have HOW4 := Lib.hid (own_fr2 HOW3.out F4.out (fun _ _ => id))
        have HM5 := Lib.hid (HM4.out.no (Fr.drew No W4))
        obtain ⟨v0, hv0⟩ : ∃ v0, (dQ s1 n (o.take i)).1 ((n : Int), x) = v0 := ⟨_, rfl⟩
        have HVV := Lib.hid hv0
        have vb : 0 ≤ v0 ∧ v0 ≤ 1000 := by rw [← hv0, HCN.out]; exact HCB.out
        have hw : IntKind.i64.wrap (v0 + 1) = v0 + 1 := IntWalk.i64_in _ (by omega)
        clear hv0
        have l0 : (Instr.lookup 59 (.map (some y.c)) (.agg #[.int .i64 n, .int .i64 x]) false).run Try.prog W4.drew = .ok (.int .i64 v0) W4.drew := by
          have := HM5.out.mc.look (k := ((n : Int), x)) HWK.out
          change Sem.run _ _ _ = Result.ok (Value.int .i64 ((dQ s1 n (o.take i)).1 ((n : Int), x))) _ at this
          rw [HVV.out] at this
          exact this
        obtain ⟨st, W5, e1, e2, e3, e4⟩ := HM5.out.mc.entry (k := ((n : Int), x)) HWK.out
        obtain ⟨W6, g1, g2, g3⟩ := e4 W5 (v0 + 1) rfl
        have HM6 := Lib.hid (HM5.out.setC (e3.trans g3) g2)
        have HF6 : Hid (Fr O W W6) := HF4.out.trans ((Fr.drew _ _).trans ((e3.trans g3).mono (fun k _ hk => by subst hk; exact HM5.out.oc)))
        have m1 : (Instr.mapEntry 59 (.map (some y.c)) (.agg #[.int .i64 n, .int .i64 x])).run Try.prog W4.drew = .ok (.tuple #[.int .i64 v0, goInt st]) W5 := by
          change Sem.run _ _ _ = Result.ok (Value.tuple #[Value.int .i64 ((dQ s1 n (o.take i)).1 ((n : Int), x)), _]) _ at e1
          rw [HVV.out] at e1
          exact e1
        have m2 : (Instr.entryStore 59 (.map (some y.c)) (.int .i64 (st : Int)) (.int .i64 (v0 + 1))).run Try.prog W5 = .ok () W6 := g1
        have l1 : (Instr.lookup 59 (.map (some y.c)) (.agg #[.int .i64 n, .int .i64 x]) false).run Try.prog W5 = .ok (.int .i64 v0) W5 := by
          have := (HM5.out.setC e3 e2).mc.look (k := ((n : Int), x)) HWK.out
          change Sem.run _ _ _ = Result.ok (Value.int .i64 ((dQ s1 n (o.take i)).1 ((n : Int), x))) _ at this
          rw [HVV.out] at this
          exact this
        have HX6 := Lib.hid ((HX4.out.fr (Fr.drew No W4) id).fr (e3.trans g3) HXC.out.1)
        have HOWN := Lib.hid (own_fr2 (own_fr2 HOW4.out (Fr.drew No W4) (fun _ _ => id)) (e3.trans g3) HXC.out.2)
        have d2 : W4.cell? ⟨B, 2, none⟩ = some (.map (some y.c)) := HM4.out.row.cell 2
        have HK5 : Hid (W5.cell? ⟨B, 2, none⟩ = some (.map (some y.c))) := (HM5.out.setC e3 e2).row.cell 2
        have HK6 : Hid (W6.cell? ⟨B, 2, none⟩ = some (.map (some y.c))) := HM6.out.row.cell 2
        have HE2 : Hid ((fun z => upd (dQ s1 n (o.take i)).1 ((n : Int), x) (v0 + 1) z) = (dOne s1.att n (dQ s1 n (o.take i)) x).1) := by show _ = _; rw [← HE1.out, HVV.out]
        clear e1 e2 e3 e4 g1 g2 g3
        have HEND := Lib.hid (fun (gg cap' : Nat) (W8 w1 : World) => HT6.out gg cap' _ W6 W8 w1 HE2.out HF6.out)
        go_region_held3 (fun w' => w'.cell? ⟨B, 2, none⟩ = some (.map (some y.c)))
          (first | (exact d2) | (exact HK5.out) | (exact HK6.out))
          (fail)
        all_goals (
          clear d2 l0 l1 m1 m2
          go_upto_region 12 with (fail)
          have HCM6 := Lib.hid (HM6.out)
          have HWK := Lib.hid (fun w (f : Fr No W6 w) => wake_ok (HM6.out.no f) (k := t.k) (c := t.c) (p := t.p) (d := t.d) (v := t.v) HCW.out)
          unfold evV at HWK
          have x1 : W6.cell? ⟨X, 1, none⟩ = some (.int .i64 t.t) := HX6.out.cell 1
          have x2 : W6.cell? ⟨X, 2, none⟩ = some (.int .i64 t.k) := HX6.out.cell 2
          have x3 : W6.cell? ⟨X, 3, none⟩ = some (.int .i64 t.c) := HX6.out.cell 3
          have x4 : W6.cell? ⟨X, 4, none⟩ = some (.int .i64 t.p) := HX6.out.cell 4
          have x5 : W6.cell? ⟨X, 5, none⟩ = some (.int .i64 t.d) := HX6.out.cell 5
          have x6 : W6.cell? ⟨X, 6, none⟩ = some (.int .i64 t.v) := HX6.out.cell 6
          have HKP : Hid (∀ w', Fr (fun k => k = y.t ∨ (Value.slice av i cv).ownBlock = some k) W6 w' → w'.cell? ⟨X, 1, none⟩ = some (.int .i64 t.t) ∧ w'.cell? ⟨X, 2, none⟩ = some (.int .i64 t.k) ∧ w'.cell? ⟨X, 3, none⟩ = some (.int .i64 t.c) ∧ w'.cell? ⟨X, 4, none⟩ = some (.int .i64 t.p) ∧ w'.cell? ⟨X, 5, none⟩ = some (.int .i64 t.d) ∧ w'.cell? ⟨X, 6, none⟩ = some (.int .i64 t.v)) := fun w' f => by
            have hx := HX6.out.fr f (fun e => e.elim (fun e => by have := HXT.out.1; omega) (fun e => HXT.out.2 X e rfl))
            exact ⟨hx.cell 1, hx.cell 2, hx.cell 3, hx.cell 4, hx.cell 5, hx.cell 6⟩
          have HMAX : Hid (i + 1 ≤ maxLen ∧ (i + 1) * 72 ≤ 140737488355328) := ⟨by have := HLN.out; have := HI1.out; unfold maxLen; omega, by have := HLN.out; have := HI1.out; omega⟩
          have HONE := Lib.hid (dv_one ⟨x, (n : Int), t.t, t.k, t.c, t.p, t.d, t.v, wkB th6 t.k t.c⟩)
          unfold dE at HONE
          go_region_held_law (fun w' => w'.cell? ⟨X, 1, none⟩ = some (.int .i64 t.t) ∧ w'.cell? ⟨X, 2, none⟩ = some (.int .i64 t.k) ∧ w'.cell? ⟨X, 3, none⟩ = some (.int .i64 t.c) ∧ w'.cell? ⟨X, 4, none⟩ = some (.int .i64 t.p) ∧ w'.cell? ⟨X, 5, none⟩ = some (.int .i64 t.d) ∧ w'.cell? ⟨X, 6, none⟩ = some (.int .i64 t.v))
            (first | (exact HKP.out _ (Fr.drew _ _)) | (exact HKP.out _ FA.out) | (exact HKP.out _ (F8.out.mono (fun _ _ e => .inl e))) | (exact HKP.out _ ((F8.out.mono (fun _ _ e => .inl e)).trans (Fr.alloc _ _ _))) | (exact HKP.out _ (((F8.out.mono (fun _ _ e => .inl e)).trans (Fr.alloc _ _ _)).trans (Fr.drew _ _))))
            (first
              | (go_at_call 59; refine (HWK.out (World.drew W6) (Fr.drew No _)).mono ?_; rintro r W8 ⟨rfl, hs8, f8⟩; have F8 : Hid (Fr (fun j => j = y.t) W6 W8) := (Fr.drew _ _).trans f8; have HS8 := Lib.hid hs8; clear f8 hs8)
              | (refine step_append_lies (W8.alloc (.cells #[.int .i64 x, .int .i64 (n : Int), .int .i64 t.t, .int .i64 t.k, .int .i64 t.c, .int .i64 t.p, .int .i64 t.d, .int .i64 t.v, .bool (wkB th6 t.k t.c)] 50)) rfl (.tmp 61) (.tmp 73) 44 rfl W.heap.size 50 it dz 9 72 Try.underlying44 HT0.out HT1.out HT2.out HT3.out rfl (by decide) (.slice av i cv) i DS6 rfl ((own_fr2 HOWN.out F8.out (fun k e e2 => HXT2.out k e e2)).alloc _) ⟨W8.heap.size, 0, none⟩ 1 1 [.int .i64 x, .int .i64 (n : Int), .int .i64 t.t, .int .i64 t.k, .int .i64 t.c, .int .i64 t.p, .int .i64 t.d, .int .i64 t.v, .bool (wkB th6 t.k t.c)] rfl rfl (fun j u hu => World.news_of_block (cs := #[.int .i64 x, .int .i64 (n : Int), .int .i64 t.t, .int .i64 t.k, .int .i64 t.c, .int .i64 t.p, .int .i64 t.d, .int .i64 t.v, .bool (wkB th6 t.k t.c)]) (t := 50) (fr := (0, 0)) (RowAt.new W8 _ _) j u hu) HONE.out (by decide) HMAX.out.1 HMAX.out.2 (by have := HF6.out.size; have := F8.out.size; simp; omega) _ rfl ?_; intro gg cap' w1 hown hgrow hat hlt2; have FA : Hid (Fr (fun k => k = y.t ∨ (Value.slice av i cv).ownBlock = some k) W6 w1) := ((F8.out.mono (fun _ _ e => .inl e)).trans (Fr.alloc _ _ _)).trans (Fr.grown hgrow (fun k e => .inr e)); have FB : Hid (Fr (fun k => (Value.slice av i cv).ownBlock = some k) W8 w1) := (Fr.alloc _ _ _).trans (Fr.grown hgrow (fun k e => e)); have HOA := Lib.hid hown; clear hown hgrow hat hlt2))
          all_goals (
            clear x1 x2 x3 x4 x5 x6
            go_wp2
            go_roundw
            case rel => exact ⟨i + 1, _, by push_cast; rfl, rfl, HI1.out, HEND.out _ _ _ _ HS8.out F8.out FB.out HOA.out⟩
            case measure => exact HMS.out)
          )
    · have hile : i = o.length := by omega
      have i1 : ¬ (i : Int) < (o.length : Nat) := by omega
      have HDE := HD.out
      rw [hile] at HDE
      have HDX := Lib.hid HDE
      clear hi HDE
      subst hile
      go_wp2
      go_ret
      exact ⟨_, rfl, HDX.out⟩
end Go.Proofs.Ytbnchmhhhildnaa
