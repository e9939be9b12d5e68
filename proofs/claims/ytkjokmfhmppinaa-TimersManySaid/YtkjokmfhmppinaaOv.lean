/- Timers: Expire where timers fire: the walk. -/
import Derived.Test.YtkjokmfhmppinaaOw
import Derived.Stop.RegionWithIn
import Derived.Shelf.RegionOpen
import Derived.Maps.OwnIn
namespace Go.Proofs.Ytkjokmfhmppinaa
open Go.RowKit Go.Maps Go.Shelf
set_option linter.unusedVariables false
attribute [local go_sem] Oper.semAt_some

theorem wpIn_calmS {F : Fence} {n : Nat} {P : Program} {c : Code} {K : Act → World → Prop} {Q : Exit → Act → World → Prop} {a : Act} {w : World} (S : Act → World → Prop) (h : c.wpIn F n P (Exit.then S (fun _ _ _ => False)) a w) (g : ∀ a' w', S a' w' → Exit.then K Q .normal a' w') : c.wpIn F n P (Exit.then K Q) a w :=
  Code.wpIn_mono (fun e a w q => by cases e <;> first | exact g _ _ q | exact q.elim) h
theorem calm_lets (S : Act → World → Prop) : ¬ LetsOut (Exit.then S (fun _ _ _ => False)) := fun ⟨_, _, h⟩ => h
theorem list_store_row {l n : Nat} {P : Program} {Q : Exit → Act → World → Prop} {ops : Array Oper} {rest : List Oper} {o : Oper} {a : Act} {w : World} (hgd : o.guard = none) (ty : TypeId) (x y : Operand) (ho : o.op = .store ty x y)
    (g : Nat) (cells : Array Value) (hx : a.eval x = .pointer (some ⟨g, 0, none⟩)) (hy : a.eval y = .agg cells)
    (t : TypeId) (old : Array Value) (hg : w.heap[g]? = some (.cells old t (0, 0))) (hi : (P.info? ty).map (·.size) = some cells.size)
    (hold : old.size = cells.size) (h1 : cells.all (·.oneCell') = true)
    (h : wpListIn (Fence.wide.inRound l) n P ops Q rest (a.put o.dst undef) (w.setRow g cells)) : wpListIn (Fence.wide.inRound l) n P ops Q (o :: rest) a w :=
  wpListIn_plain hgd fun K hK => oper_in (fun c e => by rw [ho] at e; cases e) (wp_store_row ty x y ho g cells hx hy t old hg hi hold h1 (hK _ _ h))
theorem list_load_mid {l n : Nat} {P : Program} {Q : Exit → Act → World → Prop} {ops : Array Oper} {rest : List Oper} {op : Oper} {a : Act} {w : World} (hgd : op.guard = none) (ty : TypeId) (x : Operand) (ho : op.op = .load ty x)
    (b o : Nat) (hx : a.eval x = .pointer (some ⟨b, o, none⟩)) (cs : List Value) (d : TypeDesc) (hc : w.rangeAt b o cs)
    (hu : P.underlying ty = some d) (hd : d.isRow = true) (hi : (P.info? ty).map (·.size) = some cs.length)
    (h : wpListIn (Fence.wide.inRound l) n P ops Q rest (a.put op.dst (.agg cs.toArray)) w) : wpListIn (Fence.wide.inRound l) n P ops Q (op :: rest) a w :=
  wpListIn_plain hgd fun K hK => oper_in (fun c e => by rw [ho] at e; cases e) (wp_load_mid ty x ho b o hx cs d hc hu hd hi (hK _ _ h))
theorem st_gateI {F : Fence} {n : Nat} {P : Program} {ops : Array Oper} {rest : List Oper} {d : Option Tmp} {ty : TypeId} {x y : Operand} {t : TypeId} {pos : String} {af} {gd} {a : Act} {w : World} {Q : Exit → Act → World → Prop} (h : wpListIn F n P ops Q (⟨d, .store ty x y, t, pos, af, gd⟩ :: rest) a w) : wpListIn F n P ops Q (⟨d, .store ty x y, t, pos, af, gd⟩ :: rest) a w := h
theorem ld_gateI {F : Fence} {n : Nat} {P : Program} {ops : Array Oper} {rest : List Oper} {d : Option Tmp} {ty : TypeId} {x : Operand} {t : TypeId} {pos : String} {af} {gd} {a : Act} {w : World} {Q : Exit → Act → World → Prop} (h : wpListIn F n P ops Q (⟨d, .load ty x, t, pos, af, gd⟩ :: rest) a w) : wpListIn F n P ops Q (⟨d, .load ty x, t, pos, af, gd⟩ :: rest) a w := h
theorem own_block {W : World} {lo n k : Nat} {t : TypeId} {s : Nat} {v : Value} {xs : List Value} (h : W.ownsRow lo t s v n xs) (hk : v.ownBlock = some k) : ∃ cur, W.heap[k]? = some (Obj.cells cur t (0, 0)) := by
  rcases h.2 with ⟨h1, _⟩ | ⟨g, cap, cur, h1, _, h3, _⟩
  · rw [h1] at hk; cases hk
  · rw [h1] at hk; cases hk; exact ⟨cur, h3⟩
theorem own_slice {W : World} {lo n : Nat} {t : TypeId} {s : Nat} {v : Value} {xs : List Value} (h : W.ownsRow lo t s v (n + 1) xs) : ∃ g cap, v = .slice (some ⟨g, 0, none⟩) (n + 1) cap := by
  rcases h.2 with ⟨_, h1⟩ | ⟨g, cap, cur, h1, _⟩
  · omega
  · exact ⟨g, cap, h1⟩
theorem sa_ne {l : TS} {pre rest : List (Int × Tm)} {x : Int × Tm} (h : SA l (pre ++ [x] ++ rest)) : ∀ p ∈ pre, p.1 ≠ x.1 := fun p hp e => by
  have h1 := (h.2.1 p.1 p.2).1 (by simp [hp])
  have h2 := (h.2.1 x.1 x.2).1 (by simp)
  rw [e] at h1
  have h3 : p.2 = x.2 := Option.some.inj (h1.1.symm.trans h2.1)
  have := h.1
  rw [List.append_assoc] at this
  have := (List.pairwise_append.1 this).2.2 p hp x (by simp)
  rw [h3, e] at this
  omega
set_option maxRecDepth 100000 in
set_option maxHeartbeats 8000000 in
theorem expire_fire {W : World} {B b : Nat} {l : TS} {c : Int} (h : TQ W B b l c) (hsp : SpI l) (now : Int) (hn : isT now = true) (hc : c ≤ now) (hs : (nx l).isSome = true) (hv : nxV l ≤ now) (hso : ∀ n, n ≤ l.length → SortOK n) : Calls Try.prog 23 #[.pointer (some ⟨B, 0, none⟩), .int .i64 now] W fun e w' =>
    ∃ v fs, e = .returned (.tuple #[v, .int .i64 0]) ∧ FA l now fs ∧ TQ w' B b (fireL now fs l) now ∧ w'.ownsRow W.heap.size 57 7 v fs.length (fs.flatMap (fe now)) ∧ Fr (fun k => k = B ∨ k = b) W w' := by
  have HF : Hid (Fr No W ((W.alloc (.cells #[.pointer (some ⟨B, 0, none⟩)] 24)).alloc (.cells #[.int .i64 now] 2))) := (Fr.alloc _ _ _).trans (Fr.alloc _ _ _)
  have HB := Lib.hid (Bx.new W B now)
  have HS := Lib.hid (h.no HF.out)
  have HBL : Hid (B < W.heap.size ∧ b < W.heap.size) := ⟨h.row.lt, h.map.lt⟩
  have HSZ : Hid (W.heap.size + 2 ≤ ((W.alloc (.cells #[.pointer (some ⟨B, 0, none⟩)] 24)).alloc (.cells #[.int .i64 now] 2)).heap.size) := by show _ ≤ _; simp
  have HT := Lib.hid (fun w => istime_any now w)
  rw [hn] at HT
  have HNW := Lib.hid ((isT_iff now).1 hn)
  have HSP := Lib.hid hsp
  have HSO := Lib.hid hso
  have HNE : Hid (∃ x t, get l x = some t ∧ t.f ≠ 0) := by
    cases e : nx l with
    | none => rw [e] at hs; cases hs
    | some m =>
      obtain ⟨⟨p, hp, hf, _⟩, _⟩ := nx_some e
      exact ⟨p.1, p.2, get_of_mem h.sorted hp, hf⟩
  have hd : decide (now < c) = false := by simp; omega
  have HVV := Lib.hid hv
  have HSS := Lib.hid hs
  clear h hn hsp hc hs hv hso
  refine (callsIn_wide (n := 8)).1 ?_
  refine callsIn_of_wp_marks Try.func23 rfl trivial ?_ rfl
  simp only [Try.ntmps23, List.size_toArray, List.length_cons, List.length_nil, Nat.reduceAdd, Nat.reduceSub, Array.replicate_succ, Array.replicate_zero, List.push_toArray, List.append_toArray, List.nil_append, List.cons_append]
  refine wpIn_wide.2 ?_
  go_upto_region 1 with (fail)
  generalize World.alloc (World.alloc W _) _ = W1 at HF HB HS HSZ ⊢
  generalize hp : W.heap.size = p at HB HBL HSZ ⊢
  have HP := Lib.hid hp
  clear hp
  have c0 : W1.cell? ⟨p, 0, none⟩ = some (.pointer (some ⟨B, 0, none⟩)) := HB.out.a.cell 0
  have c1 : W1.cell? ⟨p + 1, 0, none⟩ = some (.int .i64 now) := HB.out.n.cell 0
  have c2 : W1.cell? ⟨B, 1, none⟩ = some (.int .i64 c) := HS.out.row.cell 1
  go_upto_region 5 with (first
    | (go_at_call 34; refine (ismade_ok HS.out).mono ?_; rintro e w2 ⟨rfl, f2⟩; subst f2)
    | (go_at_call 45; refine (HT.out _).mono ?_; rintro e w5 ⟨rfl, f5⟩; subst f5))
  go_region_held3 (fun w' => w'.cell? ⟨p, 0, none⟩ = some (.pointer (some ⟨B, 0, none⟩)) ∧ w'.cell? ⟨p + 1, 0, none⟩ = some (.int .i64 now) ∧ w'.cell? ⟨B, 1, none⟩ = some (.int .i64 c))
    (exact ⟨c0, c1, c2⟩) (fail)
  clear c0 c1 c2
  have c0 : W1.drew.cell? ⟨p, 0, none⟩ = some (.pointer (some ⟨B, 0, none⟩)) := HB.out.a.cell 0
  have c1 : W1.drew.cell? ⟨p + 1, 0, none⟩ = some (.int .i64 now) := HB.out.n.cell 0
  have c2 : W1.drew.cell? ⟨B, 1, none⟩ = some (.int .i64 c) := HS.out.row.cell 1
  have c3 : W1.drew.frozen? ⟨B, 1, none⟩ = false := HS.out.row.frozen 1
  go_upto_region 8 with (fail)
  clear c0 c1 c2 c3
  have HS2 : Hid (TQ ((W1.setCell ⟨B, 1, none⟩ (.int .i64 now)).drew) B b l now) := (HS.out.clock now).no (Fr.drew No _)
  have HF2 : Hid (Fr (fun k => k = B) W ((W1.setCell ⟨B, 1, none⟩ (.int .i64 now)).drew)) := ((HF.out.any.trans (Fr.set (S := fun k => k = B) _ _ _ _ rfl)).trans (Fr.drew _ _))
  have HB2 : Hid (Bx ((W1.setCell ⟨B, 1, none⟩ (.int .i64 now)).drew) B now p) := (HB.out.fr (Fr.set (S := fun k => k = B) _ _ _ _ rfl) (by have := HBL.out; omega) (by have := HBL.out; omega)).fr (Fr.drew No _) id id
  have HZ2 : Hid (p + 2 ≤ ((W1.setCell ⟨B, 1, none⟩ (.int .i64 now)).drew).heap.size) := by show _ ≤ ((W1.setCell _ _).heap.size); have := HSZ.out; simpa using this
  generalize World.drew (World.setCell W1 _ _) = W2 at HS2 HF2 HB2 HZ2 ⊢
  have c0 : W2.cell? ⟨p, 0, none⟩ = some (.pointer (some ⟨B, 0, none⟩)) := HB2.out.a.cell 0
  have HN := Lib.hid (next_ok HS2.out HSP.out)
  rw [HSS.out] at HN
  generalize nxV l = v at HN HVV
  have hd2 : decide (now < v) = false := by have := HVV.out; simp; omega
  have HK : Hid (∀ w, Fr No W2 w → w.cell? ⟨p, 0, none⟩ = some (.pointer (some ⟨B, 0, none⟩)) ∧ w.cell? ⟨p + 1, 0, none⟩ = some (.int .i64 now)) := fun w f => ⟨(HB2.out.fr f id id).a.cell 0, (HB2.out.fr f id id).n.cell 0⟩
  go_upto_region 11 with (go_at_call 13; refine HN.out.mono ?_; rintro e w3 ⟨rfl, f3⟩; have F3 := Lib.hid f3; clear f3 c0; obtain ⟨c0, c1⟩ := HK.out _ F3.out)
  clear c0 c1 HN
  have HQ := Lib.hid (RowAt.new w3 53 #[.slice none 0 0])
  have HF4 : Hid (Fr No W2 (w3.alloc (.cells #[.slice none 0 0] 53))) := F3.out.trans (Fr.alloc _ _ _)
  have HZ4 : Hid (p + 2 ≤ w3.heap.size) := Nat.le_trans HZ2.out F3.out.size
  go_upto_region 12 with (fail)
  generalize World.alloc w3 _ = W4 at HQ HF4 ⊢
  generalize w3.heap.size = q at HQ HZ4 ⊢
  have HS4 := Lib.hid (HS2.out.no HF4.out)
  have HB4 := Lib.hid (HB2.out.fr HF4.out id id)
  have c0 : W4.cell? ⟨p, 0, none⟩ = some (.pointer (some ⟨B, 0, none⟩)) := HB4.out.a.cell 0
  go_wp2
  have HZQ : Hid (q < W4.heap.size) := HQ.out.lt
  have hN : B < W4.heap.size ∧ b < W4.heap.size ∧ p + 1 < W4.heap.size ∧ q < W4.heap.size ∧ W.heap.size ≤ W4.heap.size := by
    have h1 := HZQ.out; have h2 := HZ4.out; have h3 := HBL.out; have h4 := HP.out
    omega
  have HNN := Lib.hid hN
  have HFW : Hid (Fr (fun k => k = B ∨ k = b) W W4) := ((HF2.out.mono (fun _ _ e => .inl e)).trans (HF4.out.any))
  have HQB : Hid (B ≠ q ∧ b ≠ q ∧ p ≠ q ∧ p + 1 ≠ q) := by have h2 := HZ4.out; have h3 := HBL.out; show _ ∧ _; omega
  clear hN c0
  refine (wpIn_wide (n := 8)).1 ?_
  refine wpIn_rangeWord rfl (by omega) (gf := 46) (fa := #[.pointer (some ⟨B, 0, none⟩)]) (lb := #[]) rfl trivial (enters_of Try.func46 (by kernel_rfl) rfl)
    (armed_word 7 (by omega) HS4.out HNE.out HSO.out) KpI.trans ?kb (fun _ => rfl)
    (fun pre W' => ExI W W4.heap.size B b p q l now pre W') (fun cc pre W' => cc = Code.exit 1 ∧ ∃ pre' x, pre = pre' ++ [x] ∧ ExI W W4.heap.size B b p q l now pre' W' ∧ now < x.2.f)
    (fun pre X Y row h hg hr => h.own HNN.out hg hr) ?hIM (fun cc pre X Y row h hg hr => ⟨h.1, by obtain ⟨_, pre', x, e, hx, hl⟩ := h; exact ⟨pre', x, e, hx.own HNN.out hg hr, hl⟩⟩) ?h0
    (fun x a' W' => ∃ X, RowAt W' X 81 (tcs x.2) ∧ W4.heap.size ≤ X ∧ a' = { tmps := #[.pointer (some ⟨B, 0, none⟩), .int .i64 now, .pointer (some ⟨p, 0, none⟩), .pointer (some ⟨p + 1, 0, none⟩), .slice none 0 0, .int .i64 0, .int .i64 v, .bool true, .pointer (some ⟨q, 0, none⟩), .int .i64 x.1, .pointer (some ⟨X, 0, none⟩), .bool false, .pointer (some ⟨B, 0, none⟩), .bool true, .bool false, .bool false, .int .i64 now, .bool true, .bool false, .bool false, .int .i64 now, .pointer (some ⟨B, 0, none⟩), .pointer (some ⟨B, 0, none⟩), .pointer (some ⟨B, 1, none⟩), .int .i64 c, .bool false, .pointer (some ⟨B, 0, none⟩), .int .i64 now, .pointer (some ⟨B, 0, none⟩), .pointer (some ⟨B, 1, none⟩), .tuple #[.int .i64 v, .bool true], .pointer (some ⟨B, 0, none⟩), .tuple #[.int .i64 v, .bool true], .int .i64 v, .bool true, .bool true, .bool false, .bool false, .int .i64 v, .int .i64 now, .bool false, .bool false, .pointer (some ⟨B, 0, none⟩), .func (.func 46) #[.pointer (some ⟨B, 0, none⟩)] #[], .int .i64 x.1, tmE x.2, undef, undef, undef, undef, undef, undef, undef, undef, undef, undef, undef, undef, undef, undef, undef, undef, undef, undef, undef, undef, undef, undef, undef, undef, undef, undef, undef, undef], defers := [] })
    ?hAx ?assign ?body ?done ?stop
  case kb =>
    intro W' o o' ho hc
    refine ⟨(grownBy_putObj' W' _ o').size, fun k cs fr hk => (World.putObj_heap_other (fun e => ?_)).trans hk⟩
    rw [e, ho] at hk; cases hk; cases hc
  case hIM =>
    rintro pre W' ⟨v', h1, _⟩
    exact ⟨_, h1, fun x hx => fireL_not now pre l HS4.out.sorted hx⟩
  case h0 =>
    intro W1' f
    exact ⟨.slice none 0 0, HS4.out.no f, HB4.out.fr f id id, HQ.out.fr f id, World.ownsRow_nil _ _ _ _, HFW.out.trans f.any, (fun _ h => nomatch h), f.size⟩
  case hAx =>
    rintro x a' pre X Y row ⟨X1, h1, h2, h3⟩ hg hr
    refine ⟨X1, ?_, h2, h3⟩
    exact (hg.block X1 h1.lt (fun e => by obtain ⟨o, o1, o2⟩ := (hr X1 e.symm).2; have := h1; unfold RowAt at this; rw [this] at o1; cases o1; cases o2)).trans h1
  case assign =>
    intro l2 pre x W' K hI hK
    obtain ⟨xa, xt⟩ := x
    dsimp only at hK ⊢
    have HK := Lib.hid hK
    have HI := Lib.hid hI
    clear hK hI
    gi_wp2_with (first
      | ((with_reducible refine st_gateI ?_); refine list_store_row rfl 81 (Operand.tmp 10) (Operand.tmp 45) rfl W'.heap.size (tcs xt) rfl rfl _ (tcs tz) (RowAt.new W' _ _) (tcs_size xt) rfl (tcs_one xt) ?_; rw [World.setRow_alloc_new]))
    have HN2 : Hid (W4.heap.size ≤ W'.heap.size) := by
      obtain ⟨v2, h1, h2, h3, h4, h5, h6, h7⟩ := HI.out
      exact h7
    refine HK.out _ _ ((KeepsOthers.alloc _ _).from _) (KpI.no (Fr.alloc _ _ _)) (HI.out.own HNN.out (World.grownBy_alloc _ _ none) (fun r e => nomatch e)) ⟨W'.heap.size, RowAt.new W' _ _, HN2.out, rfl⟩
  case body =>
    rintro l2 pre x a' W' ⟨v', h1, h2, h3, h4, h5, h6, h7⟩ ⟨X, hX, hXN, rfl⟩ ⟨rest, hSA⟩
    obtain ⟨xa, xt⟩ := x
    have HSA := Lib.hid hSA
    have hgx : get l xa = some xt := ((hSA.2.1 xa xt).1 (by simp)).1
    have HG : Hid (get (fireL now pre l) xa = some xt) := by show _ = _; rw [fireL_not now pre l HS4.out.sorted (sa_ne hSA), hgx]
    have HD := Lib.hid (HSP.out.dl hgx)
    have H1 := Lib.hid h1
    have H2 := Lib.hid h2
    have H3 := Lib.hid h3
    have H4 := Lib.hid h4
    have H5 := Lib.hid h5
    have H6 := Lib.hid h6
    have H7 := Lib.hid h7
    have HX := Lib.hid hX
    have HXN := Lib.hid hXN
    have c0 : W'.cell? ⟨p, 0, none⟩ = some (.pointer (some ⟨B, 0, none⟩)) := h2.a.cell 0
    have c1 : W'.cell? ⟨p + 1, 0, none⟩ = some (.int .i64 now) := h2.n.cell 0
    have c2 : W'.cell? ⟨X, 6, none⟩ = some (.int .i64 xt.f) := hX.cell 6
    clear h1 h2 h3 h4 h5 h6 h7 hX hXN hSA hgx
    by_cases hlt : now < xt.f
    · have HLT := Lib.hid hlt
      gi_wp2
      exact ⟨(KeepsOthers.refl _).from _, KpI.refl _, rfl, pre, xa, xt, rfl, ⟨v', H1.out, H2.out, H3.out, H4.out, H5.out, H6.out, H7.out⟩, HLT.out⟩
    · have HLE : Hid (xt.f ≤ now) := by show _ ≤ _; omega
      have hd3 : decide (now < xt.f) = false := by simpa using hlt
      clear hlt
      have HXO : Hid (v'.ownBlock ≠ some X) := fun e => by
        obtain ⟨cur, hc⟩ := own_block H4.out e
        have := HX.out
        unfold RowAt at this
        rw [hc] at this
        injection this with this
        injection this with _ this
        cases this
      gi_upto_region 16 with (fail)
      refine wpIn_calmS (fun a2 W6 => ∃ (v2 : Value) (u46 u47 u48 u49 u50 u51 u52 u53 u54 u55 u56 u57 u58 u59 u60 u61 : Value), a2 = { tmps := #[.pointer (some ⟨B, 0, none⟩), .int .i64 now, .pointer (some ⟨p, 0, none⟩), .pointer (some ⟨p + 1, 0, none⟩), .slice none 0 0, .int .i64 0, .int .i64 v, .bool true, .pointer (some ⟨q, 0, none⟩), .int .i64 xa, .pointer (some ⟨X, 0, none⟩), .bool false, .pointer (some ⟨B, 0, none⟩), .bool true, .bool false, .bool false, .int .i64 now, .bool true, .bool false, .bool false, .int .i64 now, .pointer (some ⟨B, 0, none⟩), .pointer (some ⟨B, 0, none⟩), .pointer (some ⟨B, 1, none⟩), .int .i64 c, .bool false, .pointer (some ⟨B, 0, none⟩), .int .i64 now, .pointer (some ⟨B, 0, none⟩), .pointer (some ⟨B, 1, none⟩), .tuple #[.int .i64 v, .bool true], .pointer (some ⟨B, 0, none⟩), .tuple #[.int .i64 v, .bool true], .int .i64 v, .bool true, .bool true, .bool false, .bool false, .int .i64 v, .int .i64 now, .bool false, .bool false, .pointer (some ⟨B, 0, none⟩), .func (.func 46) #[.pointer (some ⟨B, 0, none⟩)] #[], .int .i64 xa, tmE xt, u46, u47, u48, u49, u50, u51, u52, u53, u54, u55, u56, u57, u58, u59, u60, u61, undef, undef, undef, undef, undef, undef, undef, undef, undef, undef, undef, undef], defers := [] } ∧ RowAt W6 q 53 #[v2] ∧ W6.ownsRow (q + 1) 57 7 v2 (pre.length + 1) (pre.flatMap (fe now) ++ fe now (xa, xt)) ∧ Fr (fun k => k = q ∨ v'.ownBlock = some k) W' W6) ?reg ?rest
      case reg =>
        refine region_inD (by kernel_rfl) (calm_lets _) (by kernel_rfl) ?_
        have HSX : Hid (∀ w : World, (∀ k : Nat, k ≠ q → v'.ownBlock ≠ some k → k < W'.heap.size → w.heap[k]? = W'.heap[k]?) → w.cell? ⟨p + 1, 0, none⟩ = some (.int .i64 now) ∧ w.rangeAt X 1 [Value.int .i64 xt.k, .int .i64 xt.c, .int .i64 xt.p, .int .i64 xt.d, .int .i64 xt.v] ∧ w.rangeAt X 6 [Value.int .i64 xt.f, .int .i64 xt.i, .int .i64 xt.t]) := fun w hw => by
          have hp1 : w.heap[p + 1]? = W'.heap[p + 1]? := hw _ HQB.out.2.2.2 (fun e => by have := own_lo H4.out e; have := HZ4.out; omega) H2.out.n.lt
          have hx1 : w.heap[X]? = W'.heap[X]? := hw _ (by have := HXN.out; have := HZQ.out; omega) HXO.out HX.out.lt
          have hX2 : RowAt w X 81 (tcs xt) := hx1.trans HX.out
          refine ⟨?_, fun j v hv => ?_, fun j v hv => ?_⟩
          · rw [World.cell?_of_block hp1]; exact H2.out.n.cell 0
          · match j, hv with
            | 0, hv => cases hv; exact hX2.cell 1
            | 1, hv => cases hv; exact hX2.cell 2
            | 2, hv => cases hv; exact hX2.cell 3
            | 3, hv => cases hv; exact hX2.cell 4
            | 4, hv => cases hv; exact hX2.cell 5
          · match j, hv with
            | 0, hv => cases hv; exact hX2.cell 6
            | 1, hv => cases hv; exact hX2.cell 7
            | 2, hv => cases hv; exact hX2.cell 8
        refine wpAny_of_held (S := fun w => w.cell? ⟨p + 1, 0, none⟩ = some (.int .i64 now) ∧ w.rangeAt X 1 [Value.int .i64 xt.k, .int .i64 xt.c, .int .i64 xt.p, .int .i64 xt.d, .int .i64 xt.v] ∧ w.rangeAt X 6 [Value.int .i64 xt.f, .int .i64 xt.i, .int .i64 xt.t]) _ _ _ _ ?_
        have hS0 := HSX.out W'.drew (fun k _ _ _ => rfl)
        refine wpAnyH_take (i := 1) (v := .int .i64 xa) rfl (by kernel_rfl) (by kernel_rfl) (by kernel_rfl) (fun _ _ _ h => h) (.inl ⟨rfl, fun w _ => by rfl⟩) hS0 ?_
        refine wpAnyH_take (i := 2) (v := .pointer (some ⟨X, 1, none⟩)) rfl (by kernel_rfl) (by kernel_rfl) (by kernel_rfl) (fun _ _ _ h => h) (.inl ⟨rfl, fun w _ => by rfl⟩) hS0 ?_
        refine wpAnyH_take (i := 3) (v := .agg #[.int .i64 xt.k, .int .i64 xt.c, .int .i64 xt.p, .int .i64 xt.d, .int .i64 xt.v]) rfl (by kernel_rfl) (by kernel_rfl) (by kernel_rfl) (fun _ _ _ h => h) (yieldsIf_load_mid rfl 29 (Operand.tmp 53) rfl X 1 rfl [_, _, _, _, _] _ (fun w h => h.2.1) Try.underlying29 rfl size_event) hS0 ?_
        refine wpAnyH_take (i := 4) (v := .pointer (some ⟨X, 6, none⟩)) rfl (by kernel_rfl) (by kernel_rfl) (by kernel_rfl) (fun _ _ _ h => h) (.inl ⟨rfl, fun w _ => by rfl⟩) hS0 ?_
        refine wpAnyH_take (i := 5) (v := .agg #[.int .i64 xt.f, .int .i64 xt.i, .int .i64 xt.t]) rfl (by kernel_rfl) (by kernel_rfl) (by kernel_rfl) (fun _ _ _ h => h) (yieldsIf_load_mid rfl 31 (Operand.tmp 55) rfl X 6 rfl [_, _, _] _ (fun w h => h.2.2) Try.underlying31 rfl size_spec) hS0 ?_
        refine wpAnyH_take (i := 6) (v := .int .i64 now) rfl (by kernel_rfl) (by kernel_rfl) (by kernel_rfl) (fun _ _ _ h => h) (.inl ⟨rfl, fun w h => by have h1 := h.1; go_simp⟩) hS0 ?_
        obtain ⟨i0, hi, hz0, hz1, hz2⟩ := info_parts info_fired
        have HPL : Hid (pre.length + 1 ≤ 1000) := by
          have h1 := HSA.out.2.2
          have h2 := HS4.out.len
          simp at h1
          show _ ≤ _; omega
        have HQS : Hid (q + 1 ≤ W'.heap.size) := by have := H3.out.lt; show _ ≤ _; omega
        have HOQ : Hid (¬ v'.ownBlock = some q) := fun e => by have := own_lo H4.out e; omega
        have HNEW : Hid (∀ (w3 : World) (j : Nat) (u : Value), (fe now (xa, xt))[j]? = some u → (w3.alloc (Obj.cells #[.int .i64 xa, .int .i64 xt.k, .int .i64 xt.c, .int .i64 xt.p, .int .i64 xt.d, .int .i64 xt.v, .int .i64 (ovr xt.f xt.i now)] 57)).cell? ((⟨w3.heap.size, 0, none⟩ : Addr).add j) = some u) := fun w3 j u hu => by
          rw [Addr.add_mid, Nat.zero_add, RowAt.cell (RowAt.new w3 _ _)]
          rw [← hu]
          simp [fe]
        have HCQ : Hid (∀ w, Fr No W'.drew w → w.cell? ⟨q, 0, none⟩ = some v') := fun w f => (H3.out.fr ((Fr.drew No _).trans f) id).cell 0
        have cq0 := HCQ.out _ (Fr.refl _ _)
        refine two_step 0 7 _ _ (by kernel_rfl) rfl (by rfl) rfl (by rfl) ?A ?B
        case A =>
          intro K' hK
          go_simp
          refine hK.out _ _ hS0 ?_
          clear hK K'
          refine one_step 7 _ (by kernel_rfl) rfl (by rfl) ?_
          intro K' hK
          go_simp
          refine (overruns_ok xt.f xt.i xt.t now _ HD.out.1.1 HLE.out HNW.out.2 HD.out.2.1.1).mono ?_
          rintro e W3 ⟨rfl, f3⟩
          have F3' := Lib.hid f3
          clear f3
          have hS3 := HSX.out W3 (fun k _ _ hk => F3'.out.block k hk id)
          refine hK.out _ _ hS3 ?_
          clear hK K'
          refine wpAnyH_take (i := 8) (v := .agg #[.int .i64 xa, .int .i64 xt.k, .int .i64 xt.c, .int .i64 xt.p, .int .i64 xt.d, .int .i64 xt.v, .int .i64 (ovr xt.f xt.i now)]) rfl (by kernel_rfl) (by kernel_rfl) (by kernel_rfl) (fun _ _ _ h => h) (.inl ⟨rfl, fun w _ => by kernel_rfl⟩) hS3 ?_
          refine one_step 9 _ (by kernel_rfl) rfl (by rfl) ?_
          intro K' hK
          go_simp
          have hS5 := HSX.out (W3.alloc (Obj.cells #[.int .i64 xa, .int .i64 xt.k, .int .i64 xt.c, .int .i64 xt.p, .int .i64 xt.d, .int .i64 xt.v, .int .i64 (ovr xt.f xt.i now)] 57)) (fun k _ _ hk => (F3'.out.trans (Fr.alloc No _ _)).block k hk id)
          refine hK.out _ _ hS5 ?_
          clear hK K'
          refine one_step 10 _ (by kernel_rfl) rfl (by rfl) ?_
          intro K' hK
          refine wp_append_own _ (Operand.tmp 51) (Operand.tmp 60) 53 rfl (q + 1) 57 i0 _ 7 56 Try.underlying53 hi hz0 hz1 hz2 rfl (by decide) v' pre.length (pre.flatMap (fe now)) rfl (own_fr2 H4.out ((Fr.drew No _).trans (F3'.out.trans (Fr.alloc No _ _))) (fun _ _ => id)) ⟨W3.heap.size, 0, none⟩ 1 1 (fe now (xa, xt)) rfl rfl (HNEW.out W3) (by simp [fe, Value.oneCell']) (by have := HPL.out; unfold maxLen; omega) (by have := HPL.out; omega) (by have := HQS.out; have := F3'.out.size; simp at *; omega) ?_
          intro v2 W6 ho6 hg6 _
          obtain ⟨g2, cap2, rfl⟩ := own_slice ho6
          have hf6 : Fr (fun k => v'.ownBlock = some k) W'.drew W6 := (F3'.out.trans (Fr.alloc No _ _)).any.trans (Fr.grown hg6 (fun k e => e))
          have hS6 := HSX.out W6 (fun k _ h2 hk => hf6.block k hk h2)
          refine hK.out _ _ hS6 ?_
          clear hK K'
          refine one_step 11 _ (by kernel_rfl) rfl (by rfl) ?_
          intro K' hK
          have hr6 := (H3.out.fr (Fr.drew No _) id).fr hf6 HOQ.out
          have cq6 : W6.cell? ⟨q, 0, none⟩ = some v' := hr6.cell 0
          have fq6 : W6.frozen? ⟨q, 0, none⟩ = false := hr6.frozen 0
          go_simp
          have hf7 : Fr (fun k => k = q ∨ v'.ownBlock = some k) W'.drew (W6.setCell ⟨q, 0, none⟩ (.slice (some ⟨g2, 0, none⟩) (pre.length + 1) cap2)) := (hf6.mono (fun _ _ e => .inr e)).trans (Fr.set (S := fun k => k = q ∨ v'.ownBlock = some k) _ _ _ _ (.inl rfl))
          refine hK.out _ _ (HSX.out _ (fun k h1 h2 hk => hf7.block k hk (fun e => e.elim h1 h2))) ?_
          refine wpAnyH_done (by kernel_rfl) ?_ _
          exact ⟨_, _, _, _, _, _, _, _, _, _, _, _, _, _, _, _, _, rfl, hr6.set 0 _, own_fr2 ho6 (Fr.set (S := fun k => k = q) _ _ _ _ rfl) (fun k hk e => by have := own_lo ho6 hk; omega), (Fr.drew _ _).trans hf7⟩
        case B =>
          intro K' hK
          go_simp
          refine (overruns_ok xt.f xt.i xt.t now _ HD.out.1.1 HLE.out HNW.out.2 HD.out.2.1.1).mono ?_
          rintro e W3 ⟨rfl, f3⟩
          have F3' := Lib.hid f3
          clear f3
          have hS3 := HSX.out W3 (fun k _ _ hk => F3'.out.block k hk id)
          refine hK.out _ _ hS3 ?_
          clear hK K'
          refine wpAnyH_take (i := 8) (v := .agg #[.int .i64 xa, .int .i64 xt.k, .int .i64 xt.c, .int .i64 xt.p, .int .i64 xt.d, .int .i64 xt.v, .int .i64 (ovr xt.f xt.i now)]) rfl (by kernel_rfl) (by kernel_rfl) (by kernel_rfl) (fun _ _ _ h => h) (.inl ⟨rfl, fun w _ => by kernel_rfl⟩) hS3 ?_
          refine two_step 0 9 _ _ (by kernel_rfl) rfl (by rfl) rfl (by rfl) ?B1 ?B2
          case B1 =>
            have cq3 := HCQ.out W3 F3'.out
            intro K' hK
            go_simp
            refine hK.out _ _ hS3 ?_
            clear hK K'
            refine one_step 9 _ (by kernel_rfl) rfl (by rfl) ?_
            intro K' hK
            go_simp
            have hS5 := HSX.out (W3.alloc (Obj.cells #[.int .i64 xa, .int .i64 xt.k, .int .i64 xt.c, .int .i64 xt.p, .int .i64 xt.d, .int .i64 xt.v, .int .i64 (ovr xt.f xt.i now)] 57)) (fun k _ _ hk => (F3'.out.trans (Fr.alloc No _ _)).block k hk id)
            refine hK.out _ _ hS5 ?_
            clear hK K'
            refine one_step 10 _ (by kernel_rfl) rfl (by rfl) ?_
            intro K' hK
            refine wp_append_own _ (Operand.tmp 51) (Operand.tmp 60) 53 rfl (q + 1) 57 i0 _ 7 56 Try.underlying53 hi hz0 hz1 hz2 rfl (by decide) v' pre.length (pre.flatMap (fe now)) rfl (own_fr2 H4.out ((Fr.drew No _).trans (F3'.out.trans (Fr.alloc No _ _))) (fun _ _ => id)) ⟨W3.heap.size, 0, none⟩ 1 1 (fe now (xa, xt)) rfl rfl (HNEW.out W3) (by simp [fe, Value.oneCell']) (by have := HPL.out; unfold maxLen; omega) (by have := HPL.out; omega) (by have := HQS.out; have := F3'.out.size; simp at *; omega) ?_
            intro v2 W6 ho6 hg6 _
            obtain ⟨g2, cap2, rfl⟩ := own_slice ho6
            have hf6 : Fr (fun k => v'.ownBlock = some k) W'.drew W6 := (F3'.out.trans (Fr.alloc No _ _)).any.trans (Fr.grown hg6 (fun k e => e))
            have hS6 := HSX.out W6 (fun k _ h2 hk => hf6.block k hk h2)
            refine hK.out _ _ hS6 ?_
            clear hK K'
            refine one_step 11 _ (by kernel_rfl) rfl (by rfl) ?_
            intro K' hK
            have hr6 := (H3.out.fr (Fr.drew No _) id).fr hf6 HOQ.out
            have cq6 : W6.cell? ⟨q, 0, none⟩ = some v' := hr6.cell 0
            have fq6 : W6.frozen? ⟨q, 0, none⟩ = false := hr6.frozen 0
            go_simp
            have hf7 : Fr (fun k => k = q ∨ v'.ownBlock = some k) W'.drew (W6.setCell ⟨q, 0, none⟩ (.slice (some ⟨g2, 0, none⟩) (pre.length + 1) cap2)) := (hf6.mono (fun _ _ e => .inr e)).trans (Fr.set (S := fun k => k = q ∨ v'.ownBlock = some k) _ _ _ _ (.inl rfl))
            refine hK.out _ _ (HSX.out _ (fun k h1 h2 hk => hf7.block k hk (fun e => e.elim h1 h2))) ?_
            refine wpAnyH_done (by kernel_rfl) ?_ _
            exact ⟨_, _, _, _, _, _, _, _, _, _, _, _, _, _, _, _, _, rfl, hr6.set 0 _, own_fr2 ho6 (Fr.set (S := fun k => k = q) _ _ _ _ rfl) (fun k hk e => by have := own_lo ho6 hk; omega), (Fr.drew _ _).trans hf7⟩
          case B2 =>
            intro K' hK
            go_simp
            have hS5 := HSX.out (W3.alloc (Obj.cells #[.int .i64 xa, .int .i64 xt.k, .int .i64 xt.c, .int .i64 xt.p, .int .i64 xt.d, .int .i64 xt.v, .int .i64 (ovr xt.f xt.i now)] 57)) (fun k _ _ hk => (F3'.out.trans (Fr.alloc No _ _)).block k hk id)
            refine hK.out _ _ hS5 ?_
            clear hK K'
            refine one_step 0 _ (by kernel_rfl) rfl (by rfl) ?_
            intro K' hK
            have cq5 := HCQ.out _ (F3'.out.trans (Fr.alloc No W3 (Obj.cells #[.int .i64 xa, .int .i64 xt.k, .int .i64 xt.c, .int .i64 xt.p, .int .i64 xt.d, .int .i64 xt.v, .int .i64 (ovr xt.f xt.i now)] 57)))
            go_simp
            refine hK.out _ _ hS5 ?_
            clear hK K'
            refine one_step 10 _ (by kernel_rfl) rfl (by rfl) ?_
            intro K' hK
            refine wp_append_own _ (Operand.tmp 51) (Operand.tmp 60) 53 rfl (q + 1) 57 i0 _ 7 56 Try.underlying53 hi hz0 hz1 hz2 rfl (by decide) v' pre.length (pre.flatMap (fe now)) rfl (own_fr2 H4.out ((Fr.drew No _).trans (F3'.out.trans (Fr.alloc No _ _))) (fun _ _ => id)) ⟨W3.heap.size, 0, none⟩ 1 1 (fe now (xa, xt)) rfl rfl (HNEW.out W3) (by simp [fe, Value.oneCell']) (by have := HPL.out; unfold maxLen; omega) (by have := HPL.out; omega) (by have := HQS.out; have := F3'.out.size; simp at *; omega) ?_
            intro v2 W6 ho6 hg6 _
            obtain ⟨g2, cap2, rfl⟩ := own_slice ho6
            have hf6 : Fr (fun k => v'.ownBlock = some k) W'.drew W6 := (F3'.out.trans (Fr.alloc No _ _)).any.trans (Fr.grown hg6 (fun k e => e))
            have hS6 := HSX.out W6 (fun k _ h2 hk => hf6.block k hk h2)
            refine hK.out _ _ hS6 ?_
            clear hK K'
            refine one_step 11 _ (by kernel_rfl) rfl (by rfl) ?_
            intro K' hK
            have hr6 := (H3.out.fr (Fr.drew No _) id).fr hf6 HOQ.out
            have cq6 : W6.cell? ⟨q, 0, none⟩ = some v' := hr6.cell 0
            have fq6 : W6.frozen? ⟨q, 0, none⟩ = false := hr6.frozen 0
            go_simp
            have hf7 : Fr (fun k => k = q ∨ v'.ownBlock = some k) W'.drew (W6.setCell ⟨q, 0, none⟩ (.slice (some ⟨g2, 0, none⟩) (pre.length + 1) cap2)) := (hf6.mono (fun _ _ e => .inr e)).trans (Fr.set (S := fun k => k = q ∨ v'.ownBlock = some k) _ _ _ _ (.inl rfl))
            refine hK.out _ _ (HSX.out _ (fun k h1 h2 hk => hf7.block k hk (fun e => e.elim h1 h2))) ?_
            refine wpAnyH_done (by kernel_rfl) ?_ _
            exact ⟨_, _, _, _, _, _, _, _, _, _, _, _, _, _, _, _, _, rfl, hr6.set 0 _, own_fr2 ho6 (Fr.set (S := fun k => k = q) _ _ _ _ rfl) (fun k hk e => by have := own_lo ho6 hk; omega), (Fr.drew _ _).trans hf7⟩
      case rest =>
        rintro a2 W6 ⟨v2, u46, u47, u48, u49, u50, u51, u52, u53, u54, u55, u56, u57, u58, u59, u60, u61, rfl, hq6, ho6, hf6⟩
        have HQ6 := Lib.hid hq6
        have HO6 := Lib.hid ho6
        have HF6 := Lib.hid hf6
        have hX6 : RowAt W6 X 81 (tcs xt) := HX.out.fr hf6 (fun e => e.elim (by have := HXN.out; have := HZQ.out; omega) HXO.out)
        have hB6 : Bx W6 B now p := H2.out.fr hf6 (fun e => e.elim HQB.out.2.2.1 (fun e => by have := own_lo H4.out e; have := HZ4.out; omega)) (fun e => e.elim HQB.out.2.2.2 (fun e => by have := own_lo H4.out e; have := HZ4.out; omega))
        have hT6 : TQ W6 B b (fireL now pre l) now := H1.out.fr hf6 (fun e => e.elim HQB.out.1 (fun e => by have := own_lo H4.out e; have := HZ4.out; have := HBL.out; omega)) (fun e => e.elim HQB.out.2.1 (fun e => by have := own_lo H4.out e; have := HZ4.out; have := HBL.out; omega))
        have HX6 := Lib.hid hX6
        have HB6 := Lib.hid hB6
        have HT6 := Lib.hid hT6
        have c1' : W6.cell? ⟨p + 1, 0, none⟩ = some (.int .i64 now) := hB6.n.cell 0
        clear hq6 ho6 hf6 hX6 hB6 hT6 c0 c1 c2
        have HSP6 : Hid (W6.rangeAt X 6 [Value.int .i64 xt.f, .int .i64 xt.i, .int .i64 xt.t]) := fun j v hv => by
          match j, hv with
          | 0, hv => cases hv; exact HX6.out.cell 6
          | 1, hv => cases hv; exact HX6.out.cell 7
          | 2, hv => cases hv; exact HX6.out.cell 8
        have HBE := Lib.hid (fun w => behind_ok xt.f xt.i xt.t now w HD.out.1.1 HLE.out HNW.out.2 HD.out.2.1.1 HD.out.2.1.2)
        unfold spV at HBE
        have HXK : Hid (∀ w, Fr No W6 w → w.cell? ⟨X, 6, none⟩ = some (.int .i64 xt.f) ∧ w.cell? ⟨X, 7, none⟩ = some (.int .i64 xt.i) ∧ w.cell? ⟨X, 8, none⟩ = some (.int .i64 xt.t) ∧ w.frozen? ⟨X, 6, none⟩ = false ∧ w.frozen? ⟨X, 7, none⟩ = false ∧ w.frozen? ⟨X, 8, none⟩ = false) := fun w f => ⟨(HX6.out.fr f id).cell 6, (HX6.out.fr f id).cell 7, (HX6.out.fr f id).cell 8, (HX6.out.fr f id).frozen 6, (HX6.out.fr f id).frozen 7, (HX6.out.fr f id).frozen 8⟩
        gi_upto_region 18 with (first
          | ((with_reducible refine ld_gateI ?_); refine list_load_mid rfl 31 (Operand.tmp 62) rfl X 6 rfl [_, _, _] _ HSP6.out Try.underlying31 rfl size_spec ?_; go_frame)
          | (refine ⟨trivial, ?_⟩; gi_at_call 48; refine (CallsIn.inRound l2 (callsIn_wide.2 (HBE.out _))).mono ?_; rintro e w7 ⟨rfl, f7⟩; have F7 := Lib.hid f7; clear f7; obtain ⟨d1, d2, d3, d4, d5, d6⟩ := HXK.out _ F7.out))
        clear d1 d2 d3 d4 d5 d6 c1'
        have HX8 : Hid (RowAt (((w7.setCell ⟨X, 6, none⟩ (.int .i64 (nxt xt.f xt.i now))).setCell ⟨X, 7, none⟩ (.int .i64 xt.i)).setCell ⟨X, 8, none⟩ (.int .i64 xt.t)) X 81 (tcs (updT now xt))) := (((HX6.out.fr F7.out id).set 6 _).set 7 _).set 8 _
        have HF8 : Hid (Fr (fun k => k = X) W6 (((w7.setCell ⟨X, 6, none⟩ (.int .i64 (nxt xt.f xt.i now))).setCell ⟨X, 7, none⟩ (.int .i64 xt.i)).setCell ⟨X, 8, none⟩ (.int .i64 xt.t))) := ((F7.out.any.trans (Fr.set (S := fun k => k = X) _ _ _ _ rfl)).trans (Fr.set (S := fun k => k = X) _ _ _ _ rfl)).trans (Fr.set (S := fun k => k = X) _ _ _ _ rfl)
        generalize World.setCell (World.setCell (World.setCell w7 _ _) _ _) _ _ = W8 at HX8 HF8 ⊢
        have hXs : ∀ k, k < W4.heap.size → ¬ k = X := fun k hk e => by have := HXN.out; omega
        have HB8 := Lib.hid (HB6.out.fr HF8.out (hXs _ (by have := HNN.out; omega)) (hXs _ (by have := HNN.out; omega)))
        have HT8 := Lib.hid (HT6.out.fr HF8.out (hXs _ HNN.out.1) (hXs _ HNN.out.2.1))
        have HQ8 := Lib.hid (HQ6.out.fr HF8.out (hXs _ HNN.out.2.2.2.1))
        have HO8 : Hid (W8.ownsRow (q + 1) 57 7 v2 (pre.length + 1) (pre.flatMap (fe now) ++ fe now (xa, xt))) := own_fr2 HO6.out HF8.out (fun k hk e => by
          obtain ⟨cur, hc⟩ := own_block HO6.out hk
          have := HX6.out
          unfold RowAt at this
          rw [← e, hc] at this
          injection this with this
          injection this with _ this
          cases this)
        have hxw : isW xa := wf6 (by have := (H1.out.key _ (get_mem HG.out)).1; simp at this; omega) (by have := (H1.out.key _ (get_mem HG.out)).2; simp at this; omega)
        obtain ⟨W9, m1, m2, m3⟩ := (HT8.out.map.fr (Fr.drew No _) id).put HT8.out.sorted (by have := HT8.out.len; omega) hxw (updT now xt)
        have HM9 := Lib.hid m2
        have HF9 := Lib.hid m3
        have HMU : Hid ((Instr.mapUpdate 65 (.map (some b)) (.int .i64 xa) (.agg (tcs (updT now xt)))).run Try.prog W8.drew = .ok () W9) := m1
        clear m1 m2 m3
        refine wpIn_mono (Q := Exit.then (fun _ W10 => W10 = W9) (fun _ _ _ => False)) ?reg2 ?post2
        case reg2 =>
          refine region_inD (by kernel_rfl) (calm_lets _) (by kernel_rfl) ?_
          have HS18 : Hid (∀ w, Fr (fun k => k = b) W8 w → w.cell? ⟨p, 0, none⟩ = some (.pointer (some ⟨B, 0, none⟩)) ∧ w.cell? ⟨B, 0, none⟩ = some (.map (some b)) ∧ w.rangeAt X 0 (tcs (updT now xt)).toList) := fun w f =>
            ⟨(HB8.out.fr f (by have := HBL.out; omega) (by have := HBL.out; omega)).a.cell 0, (HT8.out.row.fr f (fun e => HT8.out.ne e.symm)).cell 0, (HX8.out.fr f (by have := HXN.out; have := HNN.out; omega)).range⟩
          refine wpAny_of_held (S := fun w => w.cell? ⟨p, 0, none⟩ = some (.pointer (some ⟨B, 0, none⟩)) ∧ w.cell? ⟨B, 0, none⟩ = some (.map (some b)) ∧ w.rangeAt X 0 (tcs (updT now xt)).toList) _ _ _ _ ?_
          have hS0 := HS18.out W8.drew (Fr.drew _ _)
          refine wpAnyH_take (i := 0) (v := .pointer (some ⟨B, 0, none⟩)) rfl (by kernel_rfl) (by kernel_rfl) (by kernel_rfl) (fun _ _ _ h => h) (.inl ⟨rfl, fun w h => by have h1 := h.1; go_simp⟩) hS0 ?_
          refine wpAnyH_take (i := 1) (v := .pointer (some ⟨B, 0, none⟩)) rfl (by kernel_rfl) (by kernel_rfl) (by kernel_rfl) (fun _ _ _ h => h) (.inl ⟨rfl, fun w _ => by rfl⟩) hS0 ?_
          refine wpAnyH_take (i := 2) (v := .pointer (some ⟨B, 0, none⟩)) rfl (by kernel_rfl) (by kernel_rfl) (by kernel_rfl) (fun _ _ _ h => h) (.inl ⟨rfl, fun w _ => by rfl⟩) hS0 ?_
          refine wpAnyH_take (i := 3) (v := .map (some b)) rfl (by kernel_rfl) (by kernel_rfl) (by kernel_rfl) (fun _ _ _ h => h) (.inl ⟨rfl, fun w h => by have h1 := h.2.1; go_simp⟩) hS0 ?_
          refine wpAnyH_take (i := 4) (v := .int .i64 xa) rfl (by kernel_rfl) (by kernel_rfl) (by kernel_rfl) (fun _ _ _ h => h) (.inl ⟨rfl, fun w _ => by rfl⟩) hS0 ?_
          refine wpAnyH_take (i := 5) (v := .agg (tcs (updT now xt))) rfl (by kernel_rfl) (by kernel_rfl) (by kernel_rfl) (fun _ _ _ h => h) (yieldsIf_load_mid rfl 81 (Operand.tmp 10) rfl X 0 rfl (tcs (updT now xt)).toList _ (fun w h => h.2.2) Try.underlying81 rfl size_timer) hS0 ?_
          refine one_step 6 _ (by kernel_rfl) rfl (by rfl) ?_
          intro K' hK
          have hmu := HMU.out
          go_simp
          refine hK.out _ _ (HS18.out W9 ((Fr.drew _ _).trans HF9.out)) ?_
          exact wpAnyH_done (by kernel_rfl) rfl _
        case post2 =>
          have HFT : Hid (Fr (fun k => (k = q ∨ v'.ownBlock = some k) ∨ k = X ∨ k = b) W' W9) := ((HF6.out.mono (fun _ _ e => .inl e)).trans (HF8.out.mono (fun _ _ e => .inr (.inl e)))).trans ((Fr.drew _ _).trans (HF9.out.mono (fun _ _ e => .inr (.inr e))))
          rintro e a10 W10 hq
          cases e with
          | normal =>
            have e10 : W10 = W9 := hq
            subst e10
            refine (?_ : KeepsFrom W4.heap.size W' W10 ∧ KpI W' W10 ∧ ExI W W4.heap.size B b p q l now (pre ++ [(xa, xt)]) W10)
            have hbq : b < q := by have := HBL.out; have := HZ4.out; omega
            have hcq : ∀ k o, W'.heap[k]? = some o → (k = q ∨ v'.ownBlock = some k) ∨ k = X ∨ k = b → k = b ∨ ∃ cs t, o = Obj.cells cs t (0, 0) ∧ t ≠ 3 := fun k o ho hk => by
              rcases hk with (rfl | hk) | rfl | rfl
              · have := H3.out; unfold RowAt at this; rw [this] at ho; cases ho; exact .inr ⟨_, _, rfl, by decide⟩
              · obtain ⟨cur, hc⟩ := own_block H4.out hk; rw [hc] at ho; cases ho; exact .inr ⟨_, _, rfl, by decide⟩
              · have := HX.out; unfold RowAt at this; rw [this] at ho; cases ho; exact .inr ⟨_, _, rfl, by decide⟩
              · exact .inl rfl
            refine ⟨⟨HFT.out.size, fun k o hk ho hc => ?_⟩, ?_, ?_⟩
            · refine (HFT.out.block k (Array.getElem?_eq_some_iff.1 ho).1 fun e => ?_).trans ho
              rcases hcq k o ho e with rfl | ⟨cs, t, rfl, _⟩
              · have := HNN.out; omega
              · cases hc
            · refine KpI.fr HFT.out fun k cs fr ho e => ?_
              rcases hcq k _ ho e with rfl | ⟨cs', t, e2, ht⟩
              · obtain ⟨es, ck, hm, _⟩ := H1.out.map; rw [hm] at ho; cases ho
              · cases e2; exact ht rfl
            · have hf9 : Fr (fun k => k = b) W8 W10 := (Fr.drew _ _).trans HF9.out
              have hT9 := HT8.out.put_old HG.out hf9 HM9.out
              refine ⟨v2, by rw [fireL_snoc]; exact hT9, HB8.out.fr hf9 (by have := HBL.out; omega) (by have := HBL.out; omega), HQ8.out.fr hf9 (by omega), ?_, ?_, ?_, ?_⟩
              · have := own_fr2 HO8.out hf9 (fun k hk e => by have := own_lo HO8.out hk; omega)
                simpa using this
              · refine H5.out.over HFT.out fun i e => ?_
                rcases e with (rfl | e) | rfl | rfl
                · right; have := HZ4.out; have := HP.out; omega
                · right; have := own_lo H4.out e; have := HZ4.out; have := HP.out; omega
                · right; have := HXN.out; have := HNN.out; omega
                · exact .inl (.inr rfl)
              · intro y hy
                rcases List.mem_append.1 hy with hy | hy
                · exact H6.out y hy
                · rw [List.mem_singleton] at hy; subst hy; exact HLE.out
              · exact Nat.le_trans H7.out HFT.out.size
          | _ => exact hq.elim
  case done =>
    intro D xs W' hD hSA hI hK
    obtain ⟨v2, hV⟩ := hI
    have HV := Lib.hid hV
    have HD := Lib.hid hD
    have HSA := Lib.hid hSA
    have HKD := Lib.hid hK
    have c0 : W'.cell? ⟨q, 0, none⟩ = some v2 := hV.2.2.1.cell 0
    clear hV hD hSA hK
    gi_wp2
    go_wp2
    refine ⟨by simp, .inl ⟨_, _, rfl, run_takeDeferred HKD.out, ?_⟩⟩
    obtain ⟨h1, h2, h3, h4, h5, h6, h7⟩ := HV.out.own HNN.out (grownBy_putObj' W' D (.deferred none)) (fun r e => by cases e; exact ⟨HD.out, _, HKD.out, rfl⟩)
    exact ⟨_, results_tmp2 rfl _ _ _, v2, xs, rfl, fa_done HSA.out h6, h1, own_base h4 (by have := HZ4.out; have := HP.out; omega), h5⟩
  case stop =>
    rintro D cc pre W' hD ⟨rest, hSA⟩ ⟨rfl, pre', x, rfl, ⟨v2, hV⟩, hlt⟩ hK
    have HV := Lib.hid hV
    have HD := Lib.hid hD
    have HSA := Lib.hid hSA
    have HKD := Lib.hid hK
    have HLT := Lib.hid hlt
    have c0 : W'.cell? ⟨q, 0, none⟩ = some v2 := hV.2.2.1.cell 0
    clear hV hD hSA hK hlt
    gi_wp2
    go_wp2
    refine ⟨by simp, .inl ⟨_, _, rfl, run_takeDeferred HKD.out, ?_⟩⟩
    obtain ⟨h1, h2, h3, h4, h5, h6, h7⟩ := HV.out.own HNN.out (grownBy_putObj' W' D (.deferred none)) (fun r e => by cases e; exact ⟨HD.out, _, HKD.out, rfl⟩)
    exact ⟨_, results_tmp2 rfl _ _ _, v2, pre', rfl, fa_stop HSA.out h6 HLT.out, h1, own_base h4 (by have := HZ4.out; have := HP.out; omega), h5⟩
end Go.Proofs.Ytkjokmfhmppinaa
