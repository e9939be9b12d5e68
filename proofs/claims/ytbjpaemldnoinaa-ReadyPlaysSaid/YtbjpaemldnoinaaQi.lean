/- ReadyPlays: the reference's insert. -/
import Derived.Test.YtbjpaemldnoinaaQf
namespace Go.Proofs.Ytbjpaemldnoinaa
open Go.RowKit
set_option linter.unusedVariables false

/-- The list with an entry put in. -/
def insE (x : EnR) (f : Bool) : List EnR → List EnR
  | [] => [x]
  | y :: r => if y.p < x.p ∨ f = true ∧ y.p = x.p then x :: y :: r else y :: insE x f r
theorem insE_len (x : EnR) (f : Bool) : ∀ l, (insE x f l).length = l.length + 1
  | [] => rfl
  | y :: r => by
    rw [insE]
    split
    · rfl
    · rw [List.length_cons, insE_len x f r, List.length_cons]
/-- The slice v holds o; all that W1 had is as it was. -/
structure INS (b : Nat) (W1 : World) (v : Value) (o : List EnR) (w : World) : Prop where
  own : w.ownsRow (b + 1) 89 3 v o.length (encE o)
  fr : Fr (fun k => b + 1 ≤ k) W1 w
def cellsE (x : EnR) : List Value := [.int .i64 x.t, .int .i64 x.p, .int .i64 x.m]
theorem INS.alloc {b : Nat} {W1 w : World} {v : Value} {o : List EnR} (h : INS b W1 v o w) (obj : Obj) : INS b W1 v o (w.alloc obj) := ⟨h.own.alloc _, h.fr.trans (Fr.alloc _ _ _)⟩
theorem INS.app {b : Nat} {W1 w w1 : World} {v v' : Value} {o : List EnR} {x : EnR} {obj : Obj} {n : Nat} (h : INS b W1 v o w) (hown : w1.ownsRow (b + 1) 89 3 v' n (encE o ++ cellsE x)) (hn : n = o.length + 1) (hg : (w.alloc obj).grownBy w1 v.ownBlock) : INS b W1 v' (o ++ [x]) w1 :=
  ⟨by rw [List.length_append, encE_app, ← show n = o.length + [x].length from hn]; exact hown, h.fr.trans ((Fr.alloc _ _ _).trans (Fr.grown hg fun k e => (h.own.lt k e).1))⟩
theorem INS.row {b : Nat} {W1 w : World} {v : Value} {o : List EnR} {B : Nat} {t : TypeId} {cs : Array Value} (h : INS b W1 v o w) (hr : RowAt W1 B t cs) (hB : B ≤ b) : RowAt w B t cs := hr.fr h.fr (by omega)
theorem INS.rowApp {b : Nat} {W1 w w1 : World} {v : Value} {o : List EnR} {obj : Obj} {t : TypeId} {cs : Array Value} {B : Nat} (h : INS b W1 v o w) (hB : w.heap.size ≤ B) (hr : RowAt (w.alloc obj) B t cs) {w2 : World} (hw : w2 = w.alloc obj) {obj2 : Obj} (hg : (w2.alloc obj2).grownBy w1 v.ownBlock) : RowAt w1 B t cs := by
  subst hw
  exact hr.fr ((Fr.alloc (fun k => v.ownBlock = some k) _ _).trans (Fr.grown hg fun k e => e)) (fun e => by have := (h.own.lt B e).2; omega)
theorem newsE (W : World) (t : TypeId) (cs : List Value) : ∀ j u, cs[j]? = some u → (W.alloc (.cells cs.toArray t)).cell? ((⟨W.heap.size, 0, none⟩ : Addr).add j) = some u := fun j u hj => by
  rw [Addr.add_mid, Nat.zero_add, (RowAt.new W t cs.toArray).cell j]
  simpa using hj
theorem insE_start (x : EnR) (f : Bool) (l : List EnR) : insE x f l = [] ++ (if false = true then l.drop 0 else insE x f (l.drop 0)) := rfl
theorem insE_done {x : EnR} {f : Bool} {l o : List EnR} {i : Nat} {y : EnR} (hy : l[i]? = some y) (h : insE x f l = o ++ (if true = true then l.drop i else insE x f (l.drop i))) : insE x f l = (o ++ [y]) ++ (if true = true then l.drop (i + 1) else insE x f (l.drop (i + 1))) := by
  rw [if_pos rfl] at h ⊢
  rw [h, List.drop_eq_getElem_cons (List.getElem?_eq_some_iff.1 hy).1, (List.getElem?_eq_some_iff.1 hy).2, List.append_assoc]; rfl
theorem insE_miss {x : EnR} {f : Bool} {l o : List EnR} {i : Nat} {y : EnR} (hy : l[i]? = some y) (h : insE x f l = o ++ (if false = true then l.drop i else insE x f (l.drop i))) (hn : ¬ (y.p < x.p ∨ f = true ∧ y.p = x.p)) : insE x f l = (o ++ [y]) ++ (if false = true then l.drop (i + 1) else insE x f (l.drop (i + 1))) := by
  rw [if_neg (by simp)] at h ⊢
  rw [h, List.drop_eq_getElem_cons (List.getElem?_eq_some_iff.1 hy).1, (List.getElem?_eq_some_iff.1 hy).2, insE, if_neg hn, List.append_assoc]; rfl
theorem insE_hit {x : EnR} {f : Bool} {l o : List EnR} {i : Nat} {y : EnR} (hy : l[i]? = some y) (h : insE x f l = o ++ (if false = true then l.drop i else insE x f (l.drop i))) (hn : y.p < x.p ∨ f = true ∧ y.p = x.p) : insE x f l = ((o ++ [x]) ++ [y]) ++ (if true = true then l.drop (i + 1) else insE x f (l.drop (i + 1))) := by
  rw [if_neg (by simp)] at h
  rw [if_pos rfl]
  rw [h, List.drop_eq_getElem_cons (List.getElem?_eq_some_iff.1 hy).1, (List.getElem?_eq_some_iff.1 hy).2, insE, if_pos hn, List.append_assoc, List.append_assoc]; rfl
/-- Where the loop stands. -/
def InsI (x : EnR) (f : Bool) (l : List EnR) (b : Nat) (W1 : World) (i : Nat) (d : Bool) (vo : Value) (o : List EnR) (w : World) : Prop :=
  i ≤ l.length ∧ o.length = i + d.toNat ∧ insE x f l = o ++ (if d = true then l.drop i else insE x f (l.drop i)) ∧ INS b W1 vo o w

set_option maxRecDepth 100000 in
set_option maxHeartbeats 4000000 in
theorem rinsert_any {W : World} {lo R : Nat} {l : List EnR} (h : RQ lo R l W) (hl : l.length ≤ 256) (x : EnR) (f : Bool) : Calls Try.prog 77 #[.pointer (some ⟨R, 0, none⟩), .agg #[.int .i64 x.t, .int .i64 x.p, .int .i64 x.m], .bool f] W fun e w' => (∃ v, e = .returned v) ∧ RQ lo R (insE x f l) w' ∧ Fr (fun k => k = R ∨ W.heap.size ≤ k) W w' := by
  obtain ⟨i0, hi0, hz0, hz1, hz2⟩ := info_parts info_ent
  have HI0 := Lib.hid hi0
  have HZ0 := Lib.hid hz0
  have HZ1 := Lib.hid hz1
  have HZ2 := Lib.hid hz2
  obtain ⟨v, h⟩ := h
  obtain ⟨a, c, hv⟩ := own_shape h.own
  subst hv
  have HL := Lib.hid hl
  have HQ := Lib.hid h
  clear h hi0 hz0 hz1 hz2
  go_enter Try.func77, Try.ntmps77
  go_upto_region 1 with (fail)
  have HX1 : Hid (RowAt (W.alloc (.cells #[.int .i64 x.t, .int .i64 x.p, .int .i64 x.m] 89)) W.heap.size 89 #[.int .i64 x.t, .int .i64 x.p, .int .i64 x.m]) := RowAt.new W _ _
  have HQ1 : Hid (RQA lo R (.slice a l.length c) l (W.alloc (.cells #[.int .i64 x.t, .int .i64 x.p, .int .i64 x.m] 89))) := by
    have hf := Fr.alloc (fun k => k = W.heap.size) W (.cells #[.int .i64 x.t, .int .i64 x.p, .int .i64 x.m] 89)
    exact ⟨HQ.out.row.fr hf (Nat.ne_of_lt HQ.out.row.lt), own_fr2 HQ.out.own hf (fun k e e2 => by have := (HQ.out.own.lt k e).2; omega), HQ.out.ne, HQ.out.lo⟩
  have HF1 : Hid (Fr (fun k => k = R ∨ W.heap.size ≤ k) W (W.alloc (.cells #[.int .i64 x.t, .int .i64 x.p, .int .i64 x.m] 89))) := Fr.alloc _ _ _
  have HS1 : Hid ((W.alloc (.cells #[.int .i64 x.t, .int .i64 x.p, .int .i64 x.m] 89)).heap.size = W.heap.size + 1) := by show _ = _; simp
  have HB : Hid (lo ≤ W.heap.size ∧ R < W.heap.size) := ⟨by have := HQ.out.row.lt; have := HQ.out.lo; omega, HQ.out.row.lt⟩
  generalize W.alloc _ = W1 at HX1 HQ1 HF1 HS1 ⊢
  have HOW : Hid (∀ k, (Value.slice a l.length c).ownBlock = some k → k < W.heap.size) := fun k e => (HQ.out.own.lt k e).2
  clear HQ
  generalize hsb : W.heap.size = b at HX1 HS1 HB HOW ⊢
  have HSB := Lib.hid hsb
  clear hsb
  have HS : Hid (∀ vo o wr, INS b W1 vo o wr → RQA lo R (.slice a l.length c) l wr ∧ RowAt wr b 89 #[.int .i64 x.t, .int .i64 x.p, .int .i64 x.m] ∧ b + 1 ≤ wr.heap.size) := fun vo o wr h =>
    ⟨⟨h.row HQ1.out.row (Nat.le_of_lt HB.out.2), own_fr2 HQ1.out.own h.fr (fun k e e2 => by have := HOW.out k e; omega), HQ1.out.ne, HQ1.out.lo⟩, h.row HX1.out (Nat.le_refl _), by have := h.fr.size; have := HS1.out; omega⟩
  go_wp2
  go_loopw [6, 7, 8] (fun vo vd vi wr => ∃ (i : Nat) (d : Bool) (o : List EnR), vi = .int .i64 i ∧ vd = .bool d ∧ Hid (InsI x f l b W1 i d vo o wr)) (fun vo vd vi _ => l.length - (intOf vi).toNat)
  case atStart => exact ⟨0, false, [], rfl, rfl, Nat.zero_le _, rfl, rfl, ⟨rfl, .inl ⟨rfl, rfl⟩⟩, Fr.refl _ _⟩
  case round =>
    obtain ⟨i, d, o, rfl, rfl, HR⟩ := hrel
    have hq := (HS.out _ _ _ HR.out.2.2.2).1
    have c0 : wr.cell? ⟨R, 0, none⟩ = some (.slice a l.length c) := hq.row.cell 0
    by_cases hi : i < l.length
    · obtain ⟨g, cap, hv, _, hcap, hcells, _⟩ := own_someE hq.own (by omega)
      injection hv with hv
      subst hv
      obtain ⟨y, hy⟩ : ∃ y, l[i]? = some y := ⟨_, List.getElem?_eq_getElem hi⟩
      obtain ⟨d0, d1, d2⟩ := hcells i y hy
      have i0' : (0 : Int) ≤ i := by omega
      have i1 : (i : Int) < l.length := by omega
      have i2 : (i : Int) < 256 := by omega
      have HY := Lib.hid hy
      have HI := Lib.hid hi
      clear hi hy hcells hcap hl hq
      go_upto_region 7 with (fail)
      have HX2 : Hid (RowAt (wr.alloc (.cells #[.int .i64 y.t, .int .i64 y.p, .int .i64 y.m] 89)) b 89 #[.int .i64 x.t, .int .i64 x.p, .int .i64 x.m]) := (HR.out.2.2.2.alloc _).row HX1.out (Nat.le_refl _)
      have HY2 : Hid (RowAt (wr.alloc (.cells #[.int .i64 y.t, .int .i64 y.p, .int .i64 y.m] 89)) wr.heap.size 89 #[.int .i64 y.t, .int .i64 y.p, .int .i64 y.m]) := RowAt.new wr _ _
      have HI2 : Hid (INS b W1 u6 o (wr.alloc (.cells #[.int .i64 y.t, .int .i64 y.p, .int .i64 y.m] 89))) := HR.out.2.2.2.alloc _
      have HOB : Hid (∀ k, u6.ownBlock = some k → k < wr.heap.size) := fun k e => (HR.out.2.2.2.own.lt k e).2
      have HSZ : Hid (b + 1 ≤ (wr.alloc (.cells #[.int .i64 y.t, .int .i64 y.p, .int .i64 y.m] 89)).heap.size ∧ b + 1 ≤ wr.heap.size) := by have := (HS.out _ _ _ HR.out.2.2.2).2.2; exact ⟨by simp; omega, this⟩
      have HP : Hid (i ≤ l.length ∧ o.length = i + d.toNat ∧ insE x f l = o ++ (if d = true then l.drop i else insE x f (l.drop i))) := ⟨HR.out.1, HR.out.2.1, HR.out.2.2.1⟩
      clear c0 d0 d1 d2 HR
      generalize wr.alloc _ = W2 at HX2 HY2 HI2 HSZ ⊢
      generalize wr.heap.size = yb at HY2 HOB HSZ ⊢
      have e0 : W2.cell? ⟨b, 0, none⟩ = some (.int .i64 x.t) := HX2.out.cell 0
      have e1 : W2.cell? ⟨b, 1, none⟩ = some (.int .i64 x.p) := HX2.out.cell 1
      have e2 : W2.cell? ⟨b, 2, none⟩ = some (.int .i64 x.m) := HX2.out.cell 2
      have y0 : W2.cell? ⟨yb, 0, none⟩ = some (.int .i64 y.t) := HY2.out.cell 0
      have y1 : W2.cell? ⟨yb, 1, none⟩ = some (.int .i64 y.p) := HY2.out.cell 1
      have y2 : W2.cell? ⟨yb, 2, none⟩ = some (.int .i64 y.m) := HY2.out.cell 2
      have HSZ4 : Hid (b + 1 ≤ W2.heap.size) := HSZ.out.1
      have HLO4 : Hid (o.length + 1 ≤ 1000) := by have h1 := HP.out.2.1; have h2 := HP.out.1; have h3 := HL.out; have h4 : d.toNat ≤ 1 := Bool.toNat_le d; show _ ≤ _; omega
      cases d
      · by_cases hn : y.p < x.p ∨ f = true ∧ y.p = x.p
        · have HH : Hid (insE x f l = ((o ++ [x]) ++ [y]) ++ (if true = true then l.drop (i + 1) else insE x f (l.drop (i + 1))) ∧ ((o ++ [x]) ++ [y]).length = (i + 1) + true.toNat) := ⟨insE_hit HY.out HP.out.2.2 hn, by have := HP.out.2.1; simp only [List.length_append, List.length_cons, List.length_nil]; simp only [Bool.toNat_false] at this; simp only [Bool.toNat_true]; omega⟩
          clear HP
          rcases hn with hn | ⟨rfl, hn⟩
          · go_wp2_with (at_builtin; refine wpList_append_own _ rfl _ _ 27 rfl (b + 1) 89 i0 (.agg #[.int .i64 0, .int .i64 0, .int .i64 0]) 3 24 Try.underlying27 HI0.out HZ0.out HZ1.out HZ2.out rfl (by decide) u6 o.length (encE o) rfl (HI2.out.own.alloc _) ⟨W2.heap.size, 0, none⟩ 1 1 (cellsE x) rfl rfl ?c1 ?c2 ?c3 ?c4 ?c5 ?_)
            case c1 => exact fun j u hj => hj
            case c2 => simp [cellsE, Value.oneCell']
            case c3 => have := HLO4.out; unfold maxLen; omega
            case c4 => have := HLO4.out; omega
            case c5 => have := HSZ4.out; simp; omega
            intro v4 w4 hown hgrow _
            have HN4 : Hid (INS b W1 v4 (o ++ [x]) w4) := HI2.out.app hown (by simp) hgrow
            have HY5 : Hid (RowAt w4 yb 89 #[.int .i64 y.t, .int .i64 y.p, .int .i64 y.m]) := HY2.out.fr ((Fr.alloc (fun k => u6.ownBlock = some k) _ _).trans (Fr.grown hgrow fun k e => e)) (fun e => by have := HOB.out yb e; omega)
            have HSZ5 : Hid (b + 1 ≤ w4.heap.size) := by have h1 := HSZ.out.1; have h2 := hgrow.size; simp at h2; show _ ≤ _; omega
            have HLO5 : Hid ((o ++ [x]).length + 1 ≤ 1000) := by have h1 := HH.out.2; have h2 := HI.out; have h3 := HL.out; simp only [List.length_append, List.length_cons, List.length_nil, Bool.toNat_true] at h1 ⊢; show _ ≤ _; omega
            clear hown hgrow y0 y1 y2 e0 e1 e2
            have y0 : w4.cell? ⟨yb, 0, none⟩ = some (.int .i64 y.t) := HY5.out.cell 0
            have y1 : w4.cell? ⟨yb, 1, none⟩ = some (.int .i64 y.p) := HY5.out.cell 1
            have y2 : w4.cell? ⟨yb, 2, none⟩ = some (.int .i64 y.m) := HY5.out.cell 2
            go_wp2_with (at_builtin; refine wpList_append_own _ rfl _ _ 27 rfl (b + 1) 89 i0 (.agg #[.int .i64 0, .int .i64 0, .int .i64 0]) 3 24 Try.underlying27 HI0.out HZ0.out HZ1.out HZ2.out rfl (by decide) v4 (o ++ [x]).length (encE (o ++ [x])) rfl (HN4.out.own.alloc _) ⟨w4.heap.size, 0, none⟩ 1 1 (cellsE y) rfl rfl ?c1 ?c2 ?c3 ?c4 ?c5 ?_)
            case c1 => first | exact fun j u hj => hj | exact newsE w4 _ (cellsE y) | exact (by rw [← HEQ.out]; exact newsE w4 _ (cellsE y))
            case c2 => simp [cellsE, Value.oneCell']
            case c3 => have := HLO5.out; unfold maxLen; omega
            case c4 => have := HLO5.out; omega
            case c5 => have := HSZ5.out; simp; omega
            intro v5 w5 hown hgrow _
            have HN5 : Hid (INS b W1 v5 ((o ++ [x]) ++ [y]) w5) := HN4.out.app hown (by simp) hgrow
            clear hown hgrow
            go_wp2
            go_roundw
            case rel => exact ⟨i + 1, true, _, rfl, rfl, HI.out, HH.out.2, HH.out.1, HN5.out⟩
            case measure =>
              have := HI.out
              show l.length - (intOf (Value.int .i64 ((i : Int) + 1))).toNat < l.length - (intOf (Value.int .i64 (i : Int))).toNat
              simp only [intOf]
              omega
          · have hn2 : ¬ y.p < x.p := by omega
            have hn3 : (y.p == x.p) = true := by simpa using hn
            have HEQ := Lib.hid hn
            clear hn
            go_wp2_with (at_builtin; refine wpList_append_own _ rfl _ _ 27 rfl (b + 1) 89 i0 (.agg #[.int .i64 0, .int .i64 0, .int .i64 0]) 3 24 Try.underlying27 HI0.out HZ0.out HZ1.out HZ2.out rfl (by decide) u6 o.length (encE o) rfl (HI2.out.own.alloc _) ⟨W2.heap.size, 0, none⟩ 1 1 (cellsE x) rfl rfl ?c1 ?c2 ?c3 ?c4 ?c5 ?_)
            case c1 => exact fun j u hj => hj
            case c2 => simp [cellsE, Value.oneCell']
            case c3 => have := HLO4.out; unfold maxLen; omega
            case c4 => have := HLO4.out; omega
            case c5 => have := HSZ4.out; simp; omega
            intro v4 w4 hown hgrow _
            have HN4 : Hid (INS b W1 v4 (o ++ [x]) w4) := HI2.out.app hown (by simp) hgrow
            have HY5 : Hid (RowAt w4 yb 89 #[.int .i64 y.t, .int .i64 y.p, .int .i64 y.m]) := HY2.out.fr ((Fr.alloc (fun k => u6.ownBlock = some k) _ _).trans (Fr.grown hgrow fun k e => e)) (fun e => by have := HOB.out yb e; omega)
            have HSZ5 : Hid (b + 1 ≤ w4.heap.size) := by have h1 := HSZ.out.1; have h2 := hgrow.size; simp at h2; show _ ≤ _; omega
            have HLO5 : Hid ((o ++ [x]).length + 1 ≤ 1000) := by have h1 := HH.out.2; have h2 := HI.out; have h3 := HL.out; simp only [List.length_append, List.length_cons, List.length_nil, Bool.toNat_true] at h1 ⊢; show _ ≤ _; omega
            clear hown hgrow y0 y1 y2 e0 e1 e2
            have y0 : w4.cell? ⟨yb, 0, none⟩ = some (.int .i64 y.t) := HY5.out.cell 0
            have y1 : w4.cell? ⟨yb, 1, none⟩ = some (.int .i64 y.p) := HY5.out.cell 1
            have y2 : w4.cell? ⟨yb, 2, none⟩ = some (.int .i64 y.m) := HY5.out.cell 2
            go_wp2_with (at_builtin; refine wpList_append_own _ rfl _ _ 27 rfl (b + 1) 89 i0 (.agg #[.int .i64 0, .int .i64 0, .int .i64 0]) 3 24 Try.underlying27 HI0.out HZ0.out HZ1.out HZ2.out rfl (by decide) v4 (o ++ [x]).length (encE (o ++ [x])) rfl (HN4.out.own.alloc _) ⟨w4.heap.size, 0, none⟩ 1 1 (cellsE y) rfl rfl ?c1 ?c2 ?c3 ?c4 ?c5 ?_)
            case c1 => first | exact fun j u hj => hj | exact newsE w4 _ (cellsE y) | exact (by rw [← HEQ.out]; exact newsE w4 _ (cellsE y))
            case c2 => simp [cellsE, Value.oneCell']
            case c3 => have := HLO5.out; unfold maxLen; omega
            case c4 => have := HLO5.out; omega
            case c5 => have := HSZ5.out; simp; omega
            intro v5 w5 hown hgrow _
            have HN5 : Hid (INS b W1 v5 ((o ++ [x]) ++ [y]) w5) := HN4.out.app hown (by simp) hgrow
            clear hown hgrow
            go_wp2
            go_roundw
            case rel => exact ⟨i + 1, true, _, rfl, rfl, HI.out, HH.out.2, HH.out.1, HN5.out⟩
            case measure =>
              have := HI.out
              show l.length - (intOf (Value.int .i64 ((i : Int) + 1))).toNat < l.length - (intOf (Value.int .i64 (i : Int))).toNat
              simp only [intOf]
              omega
        · have HH : Hid (insE x f l = (o ++ [y]) ++ (if false = true then l.drop (i + 1) else insE x f (l.drop (i + 1))) ∧ (o ++ [y]).length = (i + 1) + false.toNat) := ⟨insE_miss HY.out HP.out.2.2 hn, by have := HP.out.2.1; simp only [List.length_append, List.length_cons, List.length_nil]; simp only [Bool.toNat_false] at this ⊢; omega⟩
          clear HP
          have hn2 : ¬ y.p < x.p := fun e => hn (.inl e)
          cases f
          · clear hn
            go_wp2_with (at_builtin; refine wpList_append_own _ rfl _ _ 27 rfl (b + 1) 89 i0 (.agg #[.int .i64 0, .int .i64 0, .int .i64 0]) 3 24 Try.underlying27 HI0.out HZ0.out HZ1.out HZ2.out rfl (by decide) u6 o.length (encE o) rfl (HI2.out.own.alloc _) ⟨W2.heap.size, 0, none⟩ 1 1 (cellsE y) rfl rfl ?c1 ?c2 ?c3 ?c4 ?c5 ?_)
            case c1 => exact fun j u hj => hj
            case c2 => simp [cellsE, Value.oneCell']
            case c3 => have := HLO4.out; unfold maxLen; omega
            case c4 => have := HLO4.out; omega
            case c5 => have := HSZ4.out; simp; omega
            intro v4 w4 hown hgrow _
            have HN4 : Hid (INS b W1 v4 (o ++ [y]) w4) := HI2.out.app hown (by simp) hgrow
            clear hown hgrow
            go_wp2
            go_roundw
            case rel => exact ⟨i + 1, false, _, rfl, rfl, HI.out, HH.out.2, HH.out.1, HN4.out⟩
            case measure =>
              have := HI.out
              show l.length - (intOf (Value.int .i64 ((i : Int) + 1))).toNat < l.length - (intOf (Value.int .i64 (i : Int))).toNat
              simp only [intOf]
              omega
          · have hn3 : (y.p == x.p) = false := by simpa using fun e => hn (.inr ⟨rfl, e⟩)
            clear hn
            go_wp2_with (at_builtin; refine wpList_append_own _ rfl _ _ 27 rfl (b + 1) 89 i0 (.agg #[.int .i64 0, .int .i64 0, .int .i64 0]) 3 24 Try.underlying27 HI0.out HZ0.out HZ1.out HZ2.out rfl (by decide) u6 o.length (encE o) rfl (HI2.out.own.alloc _) ⟨W2.heap.size, 0, none⟩ 1 1 (cellsE y) rfl rfl ?c1 ?c2 ?c3 ?c4 ?c5 ?_)
            case c1 => exact fun j u hj => hj
            case c2 => simp [cellsE, Value.oneCell']
            case c3 => have := HLO4.out; unfold maxLen; omega
            case c4 => have := HLO4.out; omega
            case c5 => have := HSZ4.out; simp; omega
            intro v4 w4 hown hgrow _
            have HN4 : Hid (INS b W1 v4 (o ++ [y]) w4) := HI2.out.app hown (by simp) hgrow
            clear hown hgrow
            go_wp2
            go_roundw
            case rel => exact ⟨i + 1, false, _, rfl, rfl, HI.out, HH.out.2, HH.out.1, HN4.out⟩
            case measure =>
              have := HI.out
              show l.length - (intOf (Value.int .i64 ((i : Int) + 1))).toNat < l.length - (intOf (Value.int .i64 (i : Int))).toNat
              simp only [intOf]
              omega
      · have HH : Hid (insE x f l = (o ++ [y]) ++ (if true = true then l.drop (i + 1) else insE x f (l.drop (i + 1))) ∧ (o ++ [y]).length = (i + 1) + true.toNat) := ⟨insE_done HY.out HP.out.2.2, by have := HP.out.2.1; simp only [List.length_append, List.length_cons, List.length_nil]; simp only [Bool.toNat_true] at this ⊢; omega⟩
        clear HP
        go_wp2_with (at_builtin; refine wpList_append_own _ rfl _ _ 27 rfl (b + 1) 89 i0 (.agg #[.int .i64 0, .int .i64 0, .int .i64 0]) 3 24 Try.underlying27 HI0.out HZ0.out HZ1.out HZ2.out rfl (by decide) u6 o.length (encE o) rfl (HI2.out.own.alloc _) ⟨W2.heap.size, 0, none⟩ 1 1 (cellsE y) rfl rfl ?c1 ?c2 ?c3 ?c4 ?c5 ?_)
        case c1 => exact fun j u hj => hj
        case c2 => simp [cellsE, Value.oneCell']
        case c3 => have := HLO4.out; unfold maxLen; omega
        case c4 => have := HLO4.out; omega
        case c5 => have := HSZ4.out; simp; omega
        intro v4 w4 hown hgrow _
        have HN4 : Hid (INS b W1 v4 (o ++ [y]) w4) := HI2.out.app hown (by simp) hgrow
        clear hown hgrow
        go_wp2
        go_roundw
        case rel => exact ⟨i + 1, true, _, rfl, rfl, HI.out, HH.out.2, HH.out.1, HN4.out⟩
        case measure =>
          have := HI.out
          show l.length - (intOf (Value.int .i64 ((i : Int) + 1))).toNat < l.length - (intOf (Value.int .i64 (i : Int))).toNat
          simp only [intOf]
          omega
    · have hlt : ¬ (i : Int) < l.length := by omega
      have HI : Hid (i = l.length) := by have := HR.out.1; show _ = _; omega
      clear hi hq
      have e0 : wr.cell? ⟨b, 0, none⟩ = some (.int .i64 x.t) := (HS.out _ _ _ HR.out.2.2.2).2.1.cell 0
      have e1 : wr.cell? ⟨b, 1, none⟩ = some (.int .i64 x.p) := (HS.out _ _ _ HR.out.2.2.2).2.1.cell 1
      have e2 : wr.cell? ⟨b, 2, none⟩ = some (.int .i64 x.m) := (HS.out _ _ _ HR.out.2.2.2).2.1.cell 2
      have HSZ4 : Hid (b + 1 ≤ wr.heap.size) := (HS.out _ _ _ HR.out.2.2.2).2.2
      have HLO4 : Hid (o.length + 1 ≤ 1000) := by have h1 := HR.out.2.1; have h2 := HR.out.1; have h3 := HL.out; have h4 : d.toNat ≤ 1 := Bool.toNat_le d; show _ ≤ _; omega
      have HDN : Hid (∀ vo o wr, o = insE x f l → INS b W1 vo o wr → RQ lo R (insE x f l) (wr.setCell ⟨R, 0, none⟩ vo) ∧ Fr (fun k => k = R ∨ W.heap.size ≤ k) W (wr.setCell ⟨R, 0, none⟩ vo)) := fun vo o wr e hin => by
        have hq := (HS.out _ _ _ hin).1
        subst e
        refine ⟨⟨vo, hq.row.set 0 vo, ?_, ?_, hq.lo⟩, HF1.out.trans ((hin.fr.mono fun k _ e => by have := HSB.out; omega).trans (Fr.set _ _ _ _ (.inl rfl)))⟩
        · exact own_fr2 (own_base hin.own (by have := HB.out.1; omega)) (Fr.set (S := fun k => k = R) _ _ _ _ rfl) (fun k e1 e2 => by have := (hin.own.lt k e1).1; have := HB.out.2; omega)
        · intro e1
          have := (hin.own.lt R e1).1
          have := HB.out.2
          omega
      cases d
      · have HE : Hid (o ++ [x] = insE x f l) := by have := HR.out.2.2.1; rw [HI.out, if_neg (by simp), List.drop_length] at this; exact this.symm
        have HI2 := Lib.hid HR.out.2.2.2
        go_wp2_with (at_builtin; refine wpList_append_own _ rfl _ _ 27 rfl (b + 1) 89 i0 (.agg #[.int .i64 0, .int .i64 0, .int .i64 0]) 3 24 Try.underlying27 HI0.out HZ0.out HZ1.out HZ2.out rfl (by decide) u6 o.length (encE o) rfl (HI2.out.own.alloc _) ⟨wr.heap.size, 0, none⟩ 1 1 (cellsE x) rfl rfl ?c1 ?c2 ?c3 ?c4 ?c5 ?_)
        case c1 => exact fun j u hj => hj
        case c2 => simp [cellsE, Value.oneCell']
        case c3 => have := HLO4.out; unfold maxLen; omega
        case c4 => have := HLO4.out; omega
        case c5 => have := HSZ4.out; simp; omega
        intro v4 w4 hown hgrow _
        have HN4 : Hid (INS b W1 v4 (o ++ [x]) w4) := HI2.out.app hown (by simp) hgrow
        clear hown hgrow c0 e0 e1 e2
        obtain ⟨av, cv, rfl⟩ := own_shape HN4.out.own
        have c0 : w4.cell? ⟨R, 0, none⟩ = some (.slice a l.length c) := (HS.out _ _ _ HN4.out).1.row.cell 0
        have f0 : w4.frozen? ⟨R, 0, none⟩ = false := (HS.out _ _ _ HN4.out).1.row.frozen 0
        go_wp2
        go_end0
        exact ⟨⟨_, rfl⟩, HDN.out _ _ _ HE.out (by have := HN4.out; simpa only [List.length_append, List.length_cons, List.length_nil, Nat.zero_add] using this)⟩
      · have HE : Hid (o = insE x f l) := by have := HR.out.2.2.1; rw [HI.out, if_pos rfl, List.drop_length, List.append_nil] at this; exact this.symm
        obtain ⟨av, cv, rfl⟩ := own_shape HR.out.2.2.2.own
        have f0 : wr.frozen? ⟨R, 0, none⟩ = false := (HS.out _ _ _ HR.out.2.2.2).1.row.frozen 0
        go_wp2
        go_end0
        exact ⟨⟨_, rfl⟩, HDN.out _ _ _ HE.out HR.out.2.2.2⟩
end Go.Proofs.Ytbjpaemldnoinaa
