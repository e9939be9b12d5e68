/- ReadyPlays: the reference's Add, SetPriority, Rotate. -/
import Derived.Test.YtbjpaemldnoinaaQi
import Derived.Test.YtbjpaemldnoinaaQg
namespace Go.Proofs.Ytbjpaemldnoinaa
open Go.RowKit
set_option linter.unusedVariables false

/-- What Add answers, and leaves. -/
def adE (t p m : Int) (f : Bool) (l : List EnR) : Int × List EnR := if isThr t = true ∧ isThr p = true ∧ isMsk m = true then (if 0 ≤ idxE t l 0 then (10, l) else (0, insE ⟨t, p, m⟩ f l)) else (34, l)
set_option maxRecDepth 100000 in
set_option maxHeartbeats 1000000 in
theorem radd_any {W : World} {lo R : Nat} {l : List EnR} (h : RQ lo R l W) (hl : l.length ≤ 256) (t p m : Int) (f : Bool) : Calls Try.prog 35 #[.pointer (some ⟨R, 0, none⟩), .int .i64 t, .int .i64 p, .int .i64 m, .bool f] W (RE lo R (.int .i64 (adE t p m f l).1) (adE t p m f l).2 W) := by
  have HH := Lib.hid h
  have HI := Lib.hid (rindex_any h hl t)
  have HN := Lib.hid (rinsert_any h hl ⟨t, p, m⟩ f)
  cases h1 : isThr t
  · have HT : Hid (∀ w, Calls Try.prog 73 #[.int .i64 t] w fun e w' => e = .returned (.bool false) ∧ w = w') := fun w => by rw [← h1]; exact rthread_any t w
    have HV : Hid (adE t p m f l = (34, l)) := by show _ = _; rw [adE, if_neg (by rw [h1]; simp)]
    rw [HV.out]
    clear h1 h
    go_enter Try.func35, Try.ntmps35
    go_wp2_with (go_at_call 73; refine (HT.out _).mono ?_; rintro e w' ⟨rfl, rfl⟩)
    go_ret
    exact ⟨rfl, HH.out, Fr.refl _ _, Fr.refl _ _⟩
  have HT : Hid (∀ w, Calls Try.prog 73 #[.int .i64 t] w fun e w' => e = .returned (.bool true) ∧ w = w') := fun w => by rw [← h1]; exact rthread_any t w
  cases h2 : isThr p
  · have HP : Hid (∀ w, Calls Try.prog 74 #[.int .i64 p] w fun e w' => e = .returned (.bool false) ∧ w = w') := fun w => by rw [← h2]; exact rpriority_any p w
    have HV : Hid (adE t p m f l = (34, l)) := by show _ = _; rw [adE, if_neg (by rw [h2]; simp)]
    rw [HV.out]
    clear h1 h2 h
    go_enter Try.func35, Try.ntmps35
    go_wp2_with (first
      | (go_at_call 73; refine (HT.out _).mono ?_; rintro e w' ⟨rfl, rfl⟩)
      | (go_at_call 74; refine (HP.out _).mono ?_; rintro e w' ⟨rfl, rfl⟩))
    go_ret
    exact ⟨rfl, HH.out, Fr.refl _ _, Fr.refl _ _⟩
  have HP : Hid (∀ w, Calls Try.prog 74 #[.int .i64 p] w fun e w' => e = .returned (.bool true) ∧ w = w') := fun w => by rw [← h2]; exact rpriority_any p w
  cases h3 : isMsk m
  · have HM : Hid (∀ w, Calls Try.prog 75 #[.int .i64 m] w fun e w' => e = .returned (.bool false) ∧ w = w') := fun w => by rw [← h3]; exact rmask_any m w
    have HV : Hid (adE t p m f l = (34, l)) := by show _ = _; rw [adE, if_neg (by rw [h3]; simp)]
    rw [HV.out]
    clear h1 h2 h3 h
    go_enter Try.func35, Try.ntmps35
    go_wp2_with (first
      | (go_at_call 73; refine (HT.out _).mono ?_; rintro e w' ⟨rfl, rfl⟩)
      | (go_at_call 74; refine (HP.out _).mono ?_; rintro e w' ⟨rfl, rfl⟩)
      | (go_at_call 75; refine (HM.out _).mono ?_; rintro e w' ⟨rfl, rfl⟩))
    go_ret
    exact ⟨rfl, HH.out, Fr.refl _ _, Fr.refl _ _⟩
  have HM : Hid (∀ w, Calls Try.prog 75 #[.int .i64 m] w fun e w' => e = .returned (.bool true) ∧ w = w') := fun w => by rw [← h3]; exact rmask_any m w
  have HV : Hid (adE t p m f l = if 0 ≤ idxE t l 0 then (10, l) else (0, insE ⟨t, p, m⟩ f l)) := by show _ = _; rw [adE, if_pos ⟨h1, h2, h3⟩]
  generalize adE t p m f l = v at HV ⊢
  generalize idxE t l 0 = z at HV HI
  clear h1 h2 h3 h
  by_cases hz : 0 ≤ z
  · rw [if_pos hz] at HV
    obtain rfl := HV.out
    go_enter Try.func35, Try.ntmps35
    go_wp2_with (first
      | (go_at_call 73; refine (HT.out _).mono ?_; rintro e w' ⟨rfl, rfl⟩)
      | (go_at_call 74; refine (HP.out _).mono ?_; rintro e w' ⟨rfl, rfl⟩)
      | (go_at_call 75; refine (HM.out _).mono ?_; rintro e w' ⟨rfl, rfl⟩)
      | (go_at_call 76; refine HI.out.mono ?_; rintro e w' ⟨rfl, rfl⟩))
    go_ret
    exact ⟨rfl, HH.out, Fr.refl _ _, Fr.refl _ _⟩
  · rw [if_neg hz] at HV
    obtain rfl := HV.out
    go_enter Try.func35, Try.ntmps35
    go_wp2_with (first
      | (go_at_call 73; refine (HT.out _).mono ?_; rintro e w' ⟨rfl, rfl⟩)
      | (go_at_call 74; refine (HP.out _).mono ?_; rintro e w' ⟨rfl, rfl⟩)
      | (go_at_call 75; refine (HM.out _).mono ?_; rintro e w' ⟨rfl, rfl⟩)
      | (go_at_call 76; refine HI.out.mono ?_; rintro e w' ⟨rfl, rfl⟩)
      | (go_at_call 77; refine HN.out.mono ?_; rintro e W1 ⟨⟨v1, rfl⟩, r1, g1⟩; have R1 := Lib.hid (fr_two HH.out r1 g1); clear r1 g1))
    go_ret
    exact ⟨rfl, R1.out⟩

/-- What SetPriority answers, and leaves. -/
def spE (t p : Int) (f : Bool) (l : List EnR) : Int × List EnR := if isThr p = true then (if (fndE t l).2 = 0 then (match l[(fndE t l).1.toNat]? with | some x => if x.p = p then (0, l) else (0, insE { x with p := p } f (l.eraseIdx (fndE t l).1.toNat)) | none => (0, l)) else ((fndE t l).2, l)) else (34, l)
/-- The entry x lies alone in block b, behind the queue. -/
structure BX (lo R b : Nat) (l : List EnR) (x : EnR) (W w : World) : Prop where
  q : ∃ v, RQA lo R v l w ∧ v.ownBlock ≠ some b
  row : RowAt w b 89 #[.int .i64 x.t, .int .i64 x.p, .int .i64 x.m]
  fr : Fr (fun k => k = R ∨ W.heap.size ≤ k) W w
  lob : lo ≤ b
  hb : W.heap.size ≤ b
  ne : R ≠ b
theorem BX.rq {lo R b : Nat} {l : List EnR} {x : EnR} {W w : World} (h : BX lo R b l x W w) : RQ lo R l w := by obtain ⟨v, h, _⟩ := h.q; exact ⟨v, h⟩
theorem BX.new {lo R : Nat} {l : List EnR} {W : World} (h : RQ lo R l W) (x : EnR) : BX lo R W.heap.size l x W (W.alloc (.cells #[.int .i64 x.t, .int .i64 x.p, .int .i64 x.m] 89)) := by
  obtain ⟨v, h⟩ := h
  have h1 := h.lo
  have h2 := h.row.lt
  have hf : Fr (fun _ => False) W (W.alloc (.cells #[.int .i64 x.t, .int .i64 x.p, .int .i64 x.m] 89)) := Fr.alloc _ _ _
  exact ⟨⟨v, ⟨h.row.fr hf id, own_fr2 h.own hf (fun _ _ => id), h.ne, h.lo⟩, fun e => by have := (h.own.lt _ e).2; omega⟩, RowAt.new W _ _, Fr.alloc _ _ _, by omega, Nat.le_refl _, by omega⟩
theorem BX.del {lo R b : Nat} {l l' : List EnR} {x : EnR} {W w w' : World} (h : BX lo R b l x W w) (hq : RQN lo R w.heap.size l' w') (hf0 : Fr (fun k => k = R ∨ w.heap.size ≤ k) w w') : BX lo R b l' x W w' := by
  obtain ⟨v, hq, hv⟩ := hq
  have hf : Fr (fun k => k = R) w w' := hf0.mono fun k hk e => by omega
  exact ⟨⟨v, hq, fun e => by have := hv _ e; have := h.row.lt; omega⟩, h.row.fr hf h.ne.symm, h.fr.trans (hf.mono fun k _ e => .inl e), h.lob, h.hb, h.ne⟩
theorem BX.set {lo R b : Nat} {l : List EnR} {x : EnR} {W w : World} (h : BX lo R b l x W w) (p : Int) : BX lo R b l { x with p := p } W (w.setCell ⟨b, 1, none⟩ (.int .i64 p)) := by
  obtain ⟨v, hq, hv⟩ := h.q
  exact ⟨⟨v, ⟨hq.row.other h.ne _ _, own_fr2 hq.own (Fr.set (S := fun k => k = b) _ _ _ _ rfl) (fun k e e2 => hv (by rw [e, e2])), hq.ne, hq.lo⟩, hv⟩, h.row.set 1 (.int .i64 p), h.fr.trans (Fr.set _ _ _ _ (.inr h.hb)), h.lob, h.hb, h.ne⟩
set_option maxRecDepth 100000 in
set_option maxHeartbeats 1000000 in
theorem rsetprio_any {W : World} {lo R : Nat} {l : List EnR} (h : RQ lo R l W) (hl : l.length ≤ 256) (t p : Int) (f : Bool) : Calls Try.prog 39 #[.pointer (some ⟨R, 0, none⟩), .int .i64 t, .int .i64 p, .bool f] W (RE lo R (.int .i64 (spE t p f l).1) (spE t p f l).2 W) := by
  have HH := Lib.hid h
  have HL := Lib.hid hl
  have HI := Lib.hid (rfind_any h hl t)
  cases hm : isThr p
  · have HM : Hid (∀ w, Calls Try.prog 74 #[.int .i64 p] w fun e w' => e = .returned (.bool false) ∧ w = w') := fun w => by rw [← hm]; exact rpriority_any p w
    have HV : Hid (spE t p f l = (34, l)) := by show _ = _; rw [spE, if_neg (by rw [hm]; simp)]
    rw [HV.out]
    clear hm h
    go_enter Try.func39, Try.ntmps39
    go_wp2_with (go_at_call 74; refine (HM.out _).mono ?_; rintro e w' ⟨rfl, rfl⟩)
    go_ret
    exact ⟨rfl, HH.out, Fr.refl _ _, Fr.refl _ _⟩
  have HM : Hid (∀ w, Calls Try.prog 74 #[.int .i64 p] w fun e w' => e = .returned (.bool true) ∧ w = w') := fun w => by rw [← hm]; exact rpriority_any p w
  rcases fndE_cases t l with ⟨z, hf, hz⟩ | ⟨i, x, hf, hx, ht1, hk1⟩
  · have HV : Hid (spE t p f l = (z, l)) := by show _ = _; rw [spE, if_pos hm, hf, if_neg hz]
    rw [HV.out]
    rw [hf] at HI
    have hz' : (z != 0) = true := by simpa using hz
    clear hf hz hm h
    go_enter Try.func39, Try.ntmps39
    go_wp2_with (first
      | (go_at_call 74; refine (HM.out _).mono ?_; rintro e w' ⟨rfl, rfl⟩)
      | (go_at_call 80; refine HI.out.mono ?_; rintro e w' ⟨rfl, rfl⟩))
    go_ret
    exact ⟨rfl, HH.out, Fr.refl _ _, Fr.refl _ _⟩
  · have HV : Hid (spE t p f l = if x.p = p then (0, l) else (0, insE { x with p := p } f (l.eraseIdx i))) := by
      show _ = _
      rw [spE, if_pos hm, hf, if_pos rfl]
      show (match l[((i : Int)).toNat]? with | some x => if x.p = p then ((0 : Int), l) else (0, insE { x with p := p } f (l.eraseIdx ((i : Int)).toNat)) | none => (0, l)) = _
      rw [Int.toNat_natCast, hx]
    rw [hf] at HI
    obtain ⟨v, h⟩ := h
    have hi : i < l.length := (List.getElem?_eq_some_iff.1 hx).1
    have HI' := Lib.hid hi
    obtain ⟨g, cap, hv, hg, hcap, hcells, hfz⟩ := own_someE h.own (by omega)
    subst hv
    have c0 : W.cell? ⟨R, 0, none⟩ = some (.slice (some ⟨g, 0, none⟩) l.length cap) := h.row.cell 0
    obtain ⟨d0, d1, d2⟩ := hcells i x hx
    have i0 : (0 : Int) ≤ i := by omega
    have i1 : (i : Int) < l.length := by omega
    have HX := Lib.hid hx
    clear hf hx hcells hi hm h hfz hg hcap ht1 hk1
    generalize spE t p f l = v at HV ⊢
    by_cases hp : x.p = p
    · rw [if_pos hp] at HV
      obtain rfl := HV.out
      have hp' : (x.p == p) = true := by simpa using hp
      clear hp
      go_enter Try.func39, Try.ntmps39
      go_wp2_with (first
        | (go_at_call 74; refine (HM.out _).mono ?_; rintro e w' ⟨rfl, rfl⟩)
        | (go_at_call 80; refine HI.out.mono ?_; rintro e w' ⟨rfl, rfl⟩))
      go_ret
      exact ⟨rfl, HH.out, Fr.refl _ _, Fr.refl _ _⟩
    · rw [if_neg hp] at HV
      obtain rfl := HV.out
      have hp' : (x.p == p) = false := by simpa using hp
      clear hp
      go_enter Try.func39, Try.ntmps39
      go_upto_region 9 with (first
        | (go_at_call 74; refine (HM.out _).mono ?_; rintro e w' ⟨rfl, rfl⟩)
        | (go_at_call 80; refine HI.out.mono ?_; rintro e w' ⟨rfl, rfl⟩))
      have HB1 := Lib.hid (BX.new HH.out x)
      clear c0 d0 d1 d2 hp'
      generalize W.alloc _ = W1 at HB1 ⊢
      generalize W.heap.size = b at HB1 ⊢
      have HD := Lib.hid (rdel_fr HB1.out.rq HL.out i HI'.out)
      go_upto_region 10 with (go_at_call 81; refine HD.out.mono ?_; rintro e W2 ⟨⟨v1, rfl⟩, r1, g1⟩; have HB2 := Lib.hid (HB1.out.del r1 g1); clear r1 g1)
      have c1 : W2.cell? ⟨b, 1, none⟩ = some (.int .i64 x.p) := HB2.out.row.cell 1
      have f1 : W2.frozen? ⟨b, 1, none⟩ = false := HB2.out.row.frozen 1
      go_upto_region 11 with (fail)
      have HB3 := Lib.hid (HB2.out.set p)
      clear c1 f1
      generalize W2.setCell _ _ = W3 at HB3 ⊢
      have c0 : W3.cell? ⟨b, 0, none⟩ = some (.int .i64 x.t) := HB3.out.row.cell 0
      have c1 : W3.cell? ⟨b, 1, none⟩ = some (.int .i64 p) := HB3.out.row.cell 1
      have c2 : W3.cell? ⟨b, 2, none⟩ = some (.int .i64 x.m) := HB3.out.row.cell 2
      have HN := Lib.hid (rinsert_any HB3.out.rq (by rw [List.length_eraseIdx]; have := HL.out; split <;> omega) { x with p := p } f)
      go_wp2_with (go_at_call 77; refine HN.out.mono ?_; rintro e W4 ⟨⟨v2, rfl⟩, r1, g1⟩; have R1 := Lib.hid r1; have G1 := Lib.hid g1; clear r1 g1)
      go_ret
      exact ⟨rfl, fr_two HH.out R1.out (HB3.out.fr.trans (G1.out.mono fun k _ e => by have := HB3.out.fr.size; omega))⟩

/-- The first entry of a priority, and its index. -/
def firE (p : Int) : List EnR → Nat → Option (Nat × EnR)
  | [], _ => none
  | x :: r, k => if x.p = p then some (k, x) else firE p r (k + 1)
theorem firE_hit {p : Int} {l : List EnR} {i : Nat} {x : EnR} {o : Option (Nat × EnR)} (hx : l[i]? = some x) (h : firE p (l.drop i) i = o) (he : x.p = p) : o = some (i, x) := by
  rw [List.drop_eq_getElem_cons (List.getElem?_eq_some_iff.1 hx).1, (List.getElem?_eq_some_iff.1 hx).2, firE, if_pos he] at h; exact h.symm
theorem firE_miss {p : Int} {l : List EnR} {i : Nat} {x : EnR} {o : Option (Nat × EnR)} (hx : l[i]? = some x) (h : firE p (l.drop i) i = o) (he : ¬ x.p = p) : firE p (l.drop (i + 1)) (i + 1) = o := by
  rw [List.drop_eq_getElem_cons (List.getElem?_eq_some_iff.1 hx).1, (List.getElem?_eq_some_iff.1 hx).2, firE, if_neg he] at h; exact h
/-- What Rotate answers, and leaves. -/
def roE (p : Int) (l : List EnR) : Int × List EnR := if isThr p = true then (match firE p l 0 with | some (i, x) => (0, insE x false (l.eraseIdx i)) | none => (22, l)) else (34, l)
set_option maxRecDepth 100000 in
set_option maxHeartbeats 1000000 in
theorem rrotate_any {W : World} {lo R : Nat} {l : List EnR} (h : RQ lo R l W) (hl : l.length ≤ 256) (p : Int) : Calls Try.prog 42 #[.pointer (some ⟨R, 0, none⟩), .int .i64 p] W (RE lo R (.int .i64 (roE p l).1) (roE p l).2 W) := by
  have HH := Lib.hid h
  have HL := Lib.hid hl
  cases hm : isThr p
  · have HM : Hid (∀ w, Calls Try.prog 74 #[.int .i64 p] w fun e w' => e = .returned (.bool false) ∧ w = w') := fun w => by rw [← hm]; exact rpriority_any p w
    have HV : Hid (roE p l = (34, l)) := by show _ = _; rw [roE, if_neg (by rw [hm]; simp)]
    rw [HV.out]
    clear hm h
    go_enter Try.func42, Try.ntmps42
    go_wp2_with (go_at_call 74; refine (HM.out _).mono ?_; rintro e w' ⟨rfl, rfl⟩)
    go_ret
    exact ⟨rfl, HH.out, Fr.refl _ _, Fr.refl _ _⟩
  have HM : Hid (∀ w, Calls Try.prog 74 #[.int .i64 p] w fun e w' => e = .returned (.bool true) ∧ w = w') := fun w => by rw [← hm]; exact rpriority_any p w
  have HV : Hid (roE p l = match firE p l 0 with | some (i, x) => (0, insE x false (l.eraseIdx i)) | none => (22, l)) := by show _ = _; rw [roE, if_pos hm]
  generalize roE p l = v at HV ⊢
  obtain ⟨a, h⟩ := h
  obtain ⟨a, c, hv⟩ := own_shape h.own
  subst hv
  have c0 : W.cell? ⟨R, 0, none⟩ = some (.slice a l.length c) := h.row.cell 0
  have HO := Lib.hid h.own
  clear h hm
  go_enter Try.func42, Try.ntmps42
  go_wp2_with (go_at_call 74; refine (HM.out _).mono ?_; rintro e w' ⟨rfl, rfl⟩)
  go_loop [5] (fun vi => ∃ i : Nat, vi = .int .i64 i ∧ Hid (i ≤ l.length ∧ firE p (l.drop i) i = firE p l 0)) (fun vi => l.length - (intOf vi).toNat)
  case atStart => exact ⟨0, rfl, Nat.zero_le _, rfl⟩
  case round =>
    obtain ⟨i, rfl, HR⟩ := hrel
    by_cases hi : i < l.length
    · obtain ⟨g, cap, hv, _, hcap, hcells, _⟩ := own_someE HO.out (by omega)
      injection hv with hv
      subst hv
      obtain ⟨x, hx⟩ : ∃ x, l[i]? = some x := ⟨_, List.getElem?_eq_getElem hi⟩
      obtain ⟨d0, d1, d2⟩ := hcells i x hx
      have i0 : (0 : Int) ≤ i := by omega
      have i1 : (i : Int) < l.length := by omega
      have i2 : (i : Int) < 256 := by omega
      have HX := Lib.hid hx
      have HI := Lib.hid hi
      by_cases he : x.p = p
      · have HE := Lib.hid (firE_hit hx HR.out.2 he)
        subst he
        rw [HE.out] at HV
        clear hi hx hcells hl hcap
        go_upto_region 10 with (fail)
        have HB1 := Lib.hid (BX.new HH.out x)
        clear c0 d0 d1 d2
        generalize W.alloc _ = W1 at HB1 ⊢
        generalize W.heap.size = b at HB1 ⊢
        have HD := Lib.hid (rdel_fr HB1.out.rq HL.out i HI.out)
        go_upto_region 11 with (go_at_call 81; refine HD.out.mono ?_; rintro e W2 ⟨⟨v1, rfl⟩, r1, g1⟩; have HB2 := Lib.hid (HB1.out.del r1 g1); clear r1 g1)
        have c0 : W2.cell? ⟨b, 0, none⟩ = some (.int .i64 x.t) := HB2.out.row.cell 0
        have c1 : W2.cell? ⟨b, 1, none⟩ = some (.int .i64 x.p) := HB2.out.row.cell 1
        have c2 : W2.cell? ⟨b, 2, none⟩ = some (.int .i64 x.m) := HB2.out.row.cell 2
        have HN := Lib.hid (rinsert_any HB2.out.rq (by rw [List.length_eraseIdx]; have := HL.out; split <;> omega) x false)
        go_wp2_with (go_at_call 77; refine HN.out.mono ?_; rintro e W4 ⟨⟨v2, rfl⟩, r1, g1⟩; have R1 := Lib.hid r1; have G1 := Lib.hid g1; clear r1 g1)
        go_ret
        rw [HV.out]
        exact ⟨rfl, fr_two HH.out R1.out (HB2.out.fr.trans (G1.out.mono fun k _ e => by have := HB2.out.fr.size; omega))⟩
      · have he' : (x.p == p) = false := by simpa using he
        have HE := Lib.hid (firE_miss hx HR.out.2 he)
        clear hi hx hcells he hl hcap
        go_wp2
        go_round
        case rel => exact ⟨i + 1, rfl, HI.out, HE.out⟩
        case measure =>
          have := HI.out
          show l.length - (intOf (Value.int .i64 ((i : Int) + 1))).toNat < l.length - (intOf (Value.int .i64 (i : Int))).toNat
          simp only [intOf]
          omega
    · have hlt : ¬ (i : Int) < l.length := by omega
      have HE : Hid (none = firE p l 0) := by have e := HR.out.2; rw [show i = l.length from by have := HR.out.1; omega, List.drop_length] at e; exact e
      rw [← HE.out] at HV
      clear hi
      go_wp2
      go_ret
      rw [HV.out]
      exact ⟨rfl, HH.out, Fr.refl _ _, Fr.refl _ _⟩
end Go.Proofs.Ytbjpaemldnoinaa
