/- The contract of inOrder, the walk through a queue. -/
import Derived.Test.YtjaaljcdaamcjaaGreatYl
import Derived.Stop.RegionWithIn
namespace Go.Proofs.YtjaaljcdaamcjaaGreat.Rd
open Go.RowKit Go.Shelf
set_option linter.unusedVariables false
attribute [local go_sem] Oper.semAt_some

theorem inorder_any (B : Nat) (w : World) : Calls Tryz.prog 133 #[.pointer (some ⟨B, 0, none⟩)] w fun e w' => e = .returned (.func (.func 162) #[] #[.pointer (some ⟨w.heap.size, 0, none⟩)]) ∧ w' = w.alloc (.cells #[.pointer (some ⟨B, 0, none⟩)] 84) := by
  go_enter Tryz.func133, Tryz.ntmps133
  go_wp2
  go_ret
  exact ⟨rfl, rfl⟩

/-- What a round keeps: all blocks from N on, and the blocks B and bq. -/
def KpO (N B bq : Nat) (W W' : World) : Prop := W.heap.size ≤ W'.heap.size ∧ ∀ k o, (N ≤ k ∨ k = B ∨ k = bq) → W.heap[k]? = some o → W'.heap[k]? = some o
theorem KpO.t {N B bq : Nat} {X Y Z : World} (h : KpO N B bq X Y) (k : KpO N B bq Y Z) : KpO N B bq X Z := ⟨Nat.le_trans h.1 k.1, fun i o hi ho => k.2 i o hi (h.2 i o hi ho)⟩
theorem KpO.row {N B bq k : Nat} {W W' : World} {t : TypeId} {cs : Array Value} (h : KpO N B bq W W') (hk : N ≤ k ∨ k = B ∨ k = bq) (hr : RowAt W k t cs) : RowAt W' k t cs := h.2 k _ hk hr

theorem topN_none {ls : Nat → List Nat} : ∀ {m : Nat}, topN m ls = -1 → orderN m ls = []
  | 0, _ => rfl
  | m + 1, h => by
    rw [topN] at h
    split at h
    · rename_i e; rw [orderN, e, topN_none h]; rfl
    · omega
theorem topN_some {ls : Nat → List Nat} : ∀ {m p : Nat}, topN m ls = (p : Int) → p < m ∧ ls p ≠ [] ∧ orderN m ls = ls p ++ orderN p ls
  | 0, p, h => by rw [topN] at h; omega
  | m + 1, p, h => by
    rw [topN] at h
    split at h
    · rename_i e
      obtain ⟨h1, h2, h3⟩ := topN_some h
      exact ⟨by omega, h2, by rw [orderN, e, h3]; rfl⟩
    · rename_i e
      obtain rfl : m = p := by omega
      exact ⟨by omega, e, rfl⟩
theorem topN_or (ls : Nat → List Nat) : ∀ m, topN m ls = -1 ∨ ∃ p : Nat, topN m ls = p
  | 0 => .inl rfl
  | m + 1 => by
    rw [topN]
    split
    · exact topN_or ls m
    · exact .inr ⟨m, rfl⟩

/-- The marks of loops that are over. -/
def marks (ds : List Nat) : List Deferred := ds.map fun D => { target := .collected D, args := #[] }
def MarksAt (ds : List Nat) (W : World) : Prop := ∀ D, D ∈ ds → W.heap[D]? = some (.deferred (some []))
theorem MarksAt.cons {ds : List Nat} {W : World} {D : Nat} (h : MarksAt ds W) (hD : W.heap[D]? = some (.deferred (some []))) : MarksAt (D :: ds) W := fun x hx => by
  rcases List.mem_cons.1 hx with rfl | hx
  · exact hD
  · exact h x hx
theorem leaves_marks {F : Fence} {n : Nat} {P : Program} {fn : Func} {tmps : Array Value} {R : Ending → World → Prop} {N : Nat} (K : World → Prop)
    (hK : ∀ (w : World) (D : Nat), K w → N ≤ D → w.heap[D]? = some (.deferred (some [])) → K (w.putObj D (.deferred none))) (hend : ∀ w, K w → LeavesInM F n P fn tmps R [] .returning w) :
    ∀ (ds : List Nat) (w : World), ds.Nodup → (∀ D ∈ ds, N ≤ D) → MarksAt ds w → K w → LeavesInM F n P fn tmps R (marks ds) .returning w
  | [], w, _, _, _, hk => hend w hk
  | D :: ds, w, hn, hN, hm, hk => by
    have hD := hm D (by simp)
    refine ⟨by simp, .inl ⟨_, _, rfl, run_takeDeferred hD, ?_⟩⟩
    refine leaves_marks K hK hend ds _ (List.nodup_cons.1 hn).2 (fun x hx => hN x (by simp [hx])) (fun x hx => ?_) (hK w D hk (hN D (by simp)) hD)
    have hne : x ≠ D := fun e => (List.nodup_cons.1 hn).1 (e ▸ hx)
    exact (World.putObj_heap_other hne).trans (hm x (by simp [hx]))
theorem round_wide {n m l2 : Nat} {P : Program} {l : Nat} {f : FuncId} {tmps : Array Value} {assign body : Code} {w : World} {R : Ending → World → Prop} (h : RoundIn Fence.wide n P l f tmps assign body w R) : RoundIn (Fence.wide.inRound l2) m P l f tmps assign body w R :=
  ⟨h.1, fun c cs _ => h.2 c cs (room_wide _)⟩

theorem wpIn_calm {F : Fence} {n : Nat} {P : Program} {c : Code} {K : Act → World → Prop} {Q : Exit → Act → World → Prop} {a : Act} {w : World} (h : c.wpIn F n P (Exit.then K (fun _ _ _ => False)) a w) : c.wpIn F n P (Exit.then K Q) a w :=
  Code.wpIn_mono (fun e a w q => by cases e <;> first | exact q | exact q.elim) h

theorem wpIn_calmS {F : Fence} {n : Nat} {P : Program} {c : Code} {K : Act → World → Prop} {Q : Exit → Act → World → Prop} {a : Act} {w : World} (S : Act → World → Prop) (h : c.wpIn F n P (Exit.then S (fun _ _ _ => False)) a w) (g : ∀ a' w', S a' w' → Exit.then K Q .normal a' w') : c.wpIn F n P (Exit.then K Q) a w :=
  Code.wpIn_mono (fun e a w q => by cases e <;> first | exact g _ _ q | exact q.elim) h
theorem RowAt.nc {X Y : World} {row : Option Nat} {B B0 : Nat} {t : TypeId} {cs : Array Value} (h : RowAt X B t cs) (hg : X.grownBy Y row) (hr : ∀ r, row = some r → B0 ≤ r ∧ ∃ o : Obj, X.heap[r]? = some o ∧ o.isCells = false) : RowAt Y B t cs :=
  h.kept hg (fun e' => by obtain ⟨-, o, ho, hc⟩ := hr B e'.symm; rw [show X.heap[B]? = _ from h] at ho; cases ho; cases hc)
theorem MarksAt.far {ds : List Nat} {X Y : World} {row : Option Nat} {B0 : Nat} (h : MarksAt ds X) (hb : ∀ D ∈ ds, D < B0) (hg : X.grownBy Y row) (hr : ∀ r, row = some r → B0 ≤ r ∧ ∃ o : Obj, X.heap[r]? = some o ∧ o.isCells = false) : MarksAt ds Y := fun D hD =>
  (hg.block D (Array.getElem?_eq_some_iff.1 (h D hD)).1 (fun e => by have := (hr D e.symm).1; have := hb D hD; omega)).trans (h D hD)
theorem MarksAt.kpO {ds : List Nat} {X Y : World} {N B bq : Nat} (h : MarksAt ds X) (hb : ∀ D ∈ ds, N ≤ D) (hk : KpO N B bq X Y) : MarksAt ds Y := fun D hD => hk.2 D _ (.inl (hb D hD)) (h D hD)
/-- What the inner range keeps. -/
def InI (q : QS) (B bq y l : Nat) (J : List Nat → World → Prop) (pre ds : List Nat) (pre' : List Nat) (W : World) : Prop :=
  J (pre ++ pre') W ∧ RowAt W y 115 #[.func (.yield l) #[] #[]] ∧ RowAt W bq 84 #[.pointer (some ⟨B, 0, none⟩)] ∧ QAt W B q ∧ MarksAt ds W
theorem InI.own {q : QS} {B bq y l N : Nat} {J : List Nat → World → Prop} {pre ds : List Nat} (hJ : OwnFrom y J) (hy : y ≤ N) (hb : ∀ D ∈ ds, D < N) : OwnFrom N (InI q B bq y l J pre ds) := fun s W W' row h hg hr =>
  ⟨hJ _ W W' row h.1 hg (fun r e => ⟨Nat.le_trans hy (hr r e).1, (hr r e).2⟩), h.2.1.nc hg hr, h.2.2.1.nc hg hr, RowAt.nc h.2.2.2.1 hg hr, h.2.2.2.2.far hb hg hr⟩

/-- What holds at the head of a round of inOrder's loop. -/
def InO (ls : Nat → List Nat) (q : QS) (B bq y N l : Nat) (J : List Nat → World → Prop) (m : Nat) (pre ds : List Nat) (W : World) : Prop :=
  m ≤ 256 ∧ order ls = pre ++ orderN m ls ∧ J pre W ∧ RowAt W y 115 #[.func (.yield l) #[] #[]] ∧ RowAt W bq 84 #[.pointer (some ⟨B, 0, none⟩)] ∧ QAt W B q ∧ MarksAt ds W ∧ ds.Nodup ∧ ∀ D ∈ ds, N ≤ D

set_option maxRecDepth 100000 in
set_option maxHeartbeats 4000000 in
theorem inorder1_word (n : Nat) (hn : 3 ≤ n) (B bq : Nat) (q : QS) (ls : Nat → List Nat) (hi : QInv q ls) (w : World) (hb : RowAt w bq 84 #[.pointer (some ⟨B, 0, none⟩)]) (hq : QAt w B q) :
    SeqWord Fence.wide n Tryz.prog 162 #[.pointer (some ⟨bq, 0, none⟩)] (fun x : Nat => #[Value.int .i64 (x : Int)]) (KpO (w.heap.size + 2) B bq) (fun ys => ys = order ls) (fun pre => pre <+: order ls) w := by
  intro l J Jx W hsz hg hJ hJx hY h0
  have HI := Lib.hid hi
  have hb1 := hb.kept hg (by simp)
  have hq1 : QAt W B q := QAt.kept hq hg (by simp)
  have HBL := Lib.hid (show B < W.heap.size from hq1.lt)
  have HQL := Lib.hid (show bq < W.heap.size from hb1.lt)
  have c1 : W.cell? ⟨bq, 0, none⟩ = some (.pointer (some ⟨B, 0, none⟩)) := hb1.cell 0
  rw [← hsz] at hY
  have HY := Lib.hid hY
  have HJ := Lib.hid hJ
  have HJX := Lib.hid hJx
  have HB1 := Lib.hid hb1
  have HQ1 := Lib.hid hq1
  have H0 := Lib.hid h0
  clear hi hb hq hsz hg hJ hJx hY h0 hb1 hq1
  refine callsIn_of_wp_marks Tryz.func162 rfl trivial ?_ rfl
  simp only [Tryz.ntmps162, List.size_toArray, List.length_cons, List.length_nil, Nat.reduceAdd, Nat.reduceSub, Array.replicate_succ, Array.replicate_zero, List.push_toArray, List.append_toArray, List.nil_append, List.cons_append]
  gi_upto_region 1 with (fail)
  have HY1 : Hid (RowAt (W.alloc (.cells #[.func (.yield l) #[] #[]] 115)) W.heap.size 115 #[.func (.yield l) #[] #[]]) := RowAt.new _ _ _
  have HG1 : Hid (W.grownBy (W.alloc (.cells #[.func (.yield l) #[] #[]] 115)) none) := grown_alloc _ _ _
  generalize World.alloc W _ = w1 at HY1 HG1 ⊢
  have HQ2 := Lib.hid (QAt.kept HQ1.out HG1.out (by simp))
  have HB2 := Lib.hid (HB1.out.kept HG1.out (by simp))
  have c1 : w1.cell? ⟨bq, 0, none⟩ = some (.pointer (some ⟨B, 0, none⟩)) := HB2.out.cell 0
  gi_wp2_with (refine ⟨trivial, fun _ => by omega, ?_⟩; gi_at_call 163; refine (callsIn_wide.2 (below_any HQ2.out (fun j _ => HI.out.r.flt j) 256 (Nat.le_refl _))).mono ?_; rintro e w2 ⟨rfl, g2⟩)
  have HG2 := Lib.hid (grown_trans HG1.out g2)
  have HIN : Hid (InO ls q B bq W.heap.size W.heap.size l J 256 [] [] w2) :=
    ⟨Nat.le_refl _, rfl, HJ.out _ _ _ none H0.out HG2.out (fun r e => by cases e), HY1.out.kept g2 (by simp), HB2.out.kept g2 (by simp), QAt.kept HQ2.out g2 (by simp), (fun _ h => by cases h), List.nodup_nil, (fun _ h => by cases h)⟩
  have HSZ := Lib.hid HG2.out.size
  rw [top_below HI.out.r 256 (Nat.le_refl _)]
  clear c1 g2 HG1 HG2 HY1 HQ2 HB2 HQ1 HB1 H0
  generalize W.heap.size = y at HIN HSZ HJ HJX HY HBL HQL ⊢
  refine wpIn_loop (fun a wr => ∃ (m : Nat) (pre ds : List Nat) (u4 u5 u6 u7 u8 u9 u10 u11 u12 u13 u14 u15 u16 u17 u18 u19 u20 u21 u22 u23 u24 u25 u26 u27 u28 u29 u30 : Value), a = { tmps := #[.func (.yield l) #[] #[], .pointer (some ⟨bq, 0, none⟩), .pointer (some ⟨y, 0, none⟩), .int .i64 (topN m ls), u4, u5, u6, u7, u8, u9, u10, u11, u12, u13, u14, u15, u16, u17, u18, u19, u20, u21, u22, u23, u24, u25, u26, u27, u28, u29, u30], defers := marks ds } ∧ Hid (InO ls q B bq y y l J m pre ds wr)) (fun a _ => (intOf (a.tmps.getD 3 undef) + 1).toNat) ⟨256, [], [], _, _, _, _, _, _, _, _, _, _, _, _, _, _, _, _, _, _, _, _, _, _, _, _, _, _, _, rfl, HIN⟩ ?_
  rintro a wr ⟨m, pre, ds, u4, u5, u6, u7, u8, u9, u10, u11, u12, u13, u14, u15, u16, u17, u18, u19, u20, u21, u22, u23, u24, u25, u26, u27, u28, u29, u30, rfl, HO⟩
  rcases topN_or ls m with hm | ⟨p, hm⟩
  · rw [hm]
    have hnil := topN_none hm
    have HP : Hid (pre = order ls) := by show _ = _; rw [HO.out.2.1, hnil, List.append_nil]
    clear hnil hm
    gi_wp2
    obtain ⟨_, _, hj, _, _, _, hma, hnd, hN⟩ := HO.out
    exact leaves_marks (N := y) (J pre) (fun w D hk hD ho => HJ.out.putObj _ hk hD ho rfl) (fun w hk => ⟨_, results_none rfl _ _ _, ⟨_, rfl⟩, .inl ⟨pre, HP.out, hk⟩⟩) ds wr hnd hN hma hj
  · rw [hm]
    obtain ⟨hpm, hpl, hpo⟩ := topN_some hm
    obtain ⟨h256, hord, hj, hy, hb, hq, hma, hnd, hN⟩ := HO.out
    obtain ⟨hd, r, hr⟩ : ∃ a r, ls p = a :: r := by
      cases hl : ls p with
      | nil => exact absurd hl hpl
      | cons a r => exact ⟨a, r, rfl⟩
    have hp256 : p < 256 := by omega
    have HRG : Hid (Ring q.after q.before (hd :: r)) := hr ▸ HI.out.r.ring p
    have HNDL : Hid ((hd :: r).Nodup) := hr ▸ HI.out.r.nodup p
    have HMEM : Hid (∀ x ∈ hd :: r, x < 256) := fun x hx => (HI.out.r.mem p x (hr ▸ hx)).1
    have HORD : Hid (order ls = pre ++ (hd :: r) ++ orderN p ls) := by show _ = _; rw [hord, hpo, hr, List.append_assoc]
    have c1 : wr.cell? ⟨bq, 0, none⟩ = some (.pointer (some ⟨B, 0, none⟩)) := hb.cell 0
    have c2 : wr.cell? ⟨B, 516 + p, none⟩ = some (.int .i64 hd) := by rw [hq.heads p hp256, HI.out.r.head p hd r hr]
    have p0 : (0 : Int) ≤ p := by omega
    have p1 : (p : Int) < 256 := by omega
    have HM := Lib.hid hm
    have HP256 := Lib.hid hp256
    have hmx : Tryz.prog.follows .mixedOrders = true := by kernel_rfl
    clear hpm hpl hpo h256 hord hj hy hb hq hma hnd hN hr hp256
    gi_wp2
    have HSR : Hid (y ≤ wr.heap.size) := Nat.le_of_lt HO.out.2.2.2.1.lt
    refine wpIn_calmS (fun a' w' => a' = { tmps := #[.func (.yield l) #[] #[], .pointer (some ⟨bq, 0, none⟩), .pointer (some ⟨y, 0, none⟩), .int .i64 p, u4, u5, u6, u7, u8, .int .i64 p, .bool true, u11, u12, u13, u14, u15, .pointer (some ⟨B, 0, none⟩), .pointer (some ⟨B, 0, none⟩), .pointer (some ⟨B, 0, none⟩), .pointer (some ⟨B, 0, none⟩), .int .i64 p, .pointer (some ⟨B, 0, none⟩), .pointer (some ⟨B, 516, none⟩), .pointer (some ⟨B, 516 + p, none⟩), .int .i64 hd, .func (.func 188) #[] #[.pointer (some ⟨wr.heap.size + 1, 0, none⟩), .pointer (some ⟨wr.heap.size, 0, none⟩)], u26, u27, u28, u29, u30], defers := marks ds } ∧ w' = ((wr.alloc (.cells #[.pointer (some ⟨B, 0, none⟩)] 250)).alloc (.cells #[.int .i64 hd] 3)).drew) ?_ ?_
    · gi_region_with_o (refine ⟨trivial, fun _ => by omega, ?_⟩; gi_at_call 164; refine (callsIn_wide.2 (around_any B hd _)).mono ?_; rintro e w' ⟨rfl, rfl⟩)
      all_goals exact ⟨rfl, rfl⟩
    rintro _ _ ⟨rfl, rfl⟩
    have HG4 : Hid (wr.grownBy ((wr.alloc (.cells #[.pointer (some ⟨B, 0, none⟩)] 250)).alloc (.cells #[.int .i64 hd] 3)).drew none) := grown_trans (grown_trans (grown_alloc _ _ _) (grown_alloc _ _ _)) (grown_drew _ _)
    have HR2 : Hid (RowAt ((wr.alloc (.cells #[.pointer (some ⟨B, 0, none⟩)] 250)).alloc (.cells #[.int .i64 hd] 3)).drew wr.heap.size 250 #[.pointer (some ⟨B, 0, none⟩)]) := ((RowAt.new wr _ _).kept (grown_alloc _ _ none) (by simp)).kept (grown_drew _ none) (by simp)
    have HR1 : Hid (RowAt ((wr.alloc (.cells #[.pointer (some ⟨B, 0, none⟩)] 250)).alloc (.cells #[.int .i64 hd] 3)).drew (wr.heap.size + 1) 3 #[.int .i64 hd]) := by
      have h := (RowAt.new (wr.alloc (.cells #[.pointer (some ⟨B, 0, none⟩)] 250)) 3 #[.int .i64 hd]).kept (grown_drew _ none) (by simp)
      rwa [World.size_alloc] at h
    have HS4 : Hid (((wr.alloc (.cells #[.pointer (some ⟨B, 0, none⟩)] 250)).alloc (.cells #[.int .i64 hd] 3)).drew.heap.size = wr.heap.size + 2) := by show (World.alloc _ _).heap.size = _; simp
    have HI4 : Hid (InI q B bq y l J pre ds [] ((wr.alloc (.cells #[.pointer (some ⟨B, 0, none⟩)] 250)).alloc (.cells #[.int .i64 hd] 3)).drew ∧ (∀ D ∈ ds, D < wr.heap.size)) := by
      obtain ⟨h256, hord, hj, hy, hb, hq, hma, hnd, hN⟩ := HO.out
      exact ⟨⟨by rw [List.append_nil]; exact HJ.out _ _ _ none hj HG4.out (fun r e => by cases e), hy.kept HG4.out (by simp), hb.kept HG4.out (by simp), QAt.kept hq HG4.out (by simp), hma.far (B0 := wr.heap.size) (fun D hD => (Array.getElem?_eq_some_iff.1 (hma D hD)).1) HG4.out (fun r e => by cases e)⟩, fun D hD => (Array.getElem?_eq_some_iff.1 (hma D hD)).1⟩
    generalize World.drew _ = W4 at HR1 HR2 HG4 HS4 HI4 ⊢
    generalize wr.heap.size = b at HR1 HR2 HG4 HS4 HI4 HSR ⊢
    clear c1 c2
    gi_wp2
    refine wpIn_rangeWord rfl (by omega) (gf := 188) (lb := #[.pointer (some ⟨b + 1, 0, none⟩), .pointer (some ⟨b, 0, none⟩)]) rfl trivial (enters_of Tryz.func188 (by kernel_rfl) rfl)
      (around1_word (n - 1) (by omega) B (b + 1) b q hd r HRG.out HNDL.out HMEM.out W4 HR1.out HR2.out HI4.out.1.2.2.2.1) KpC.t (fun W o o' h ho => KpC.b W _ o o' h ho) (fun _ => rfl)
      (InI q B bq y l J pre ds) (fun c xs W => c = .ret ∧ InI q B bq y l Jx pre ds xs W) (InI.own HJ.out (by have := HSR.out; have := HS4.out; omega) (fun D hD => by have := HI4.out.2 D hD; have := HS4.out; omega))
      (fun c s W W' row h hg hr => ⟨h.1, InI.own HJX.out (by have := HSR.out; have := HS4.out; omega) (fun D hD => by have := HI4.out.2 D hD; have := HS4.out; omega) s W W' row h.2 hg hr⟩) HI4.out.1
      (fun x => { tmps := #[.func (.yield l) #[] #[], .pointer (some ⟨bq, 0, none⟩), .pointer (some ⟨y, 0, none⟩), .int .i64 p, Value.int .i64 (x : Int), u5, u6, u7, u8, .int .i64 p, .bool true, u11, u12, u13, u14, u15, .pointer (some ⟨B, 0, none⟩), .pointer (some ⟨B, 0, none⟩), .pointer (some ⟨B, 0, none⟩), .pointer (some ⟨B, 0, none⟩), .int .i64 p, .pointer (some ⟨B, 0, none⟩), .pointer (some ⟨B, 516, none⟩), .pointer (some ⟨B, 516 + p, none⟩), .int .i64 hd, .func (.func 188) #[] #[.pointer (some ⟨b + 1, 0, none⟩), .pointer (some ⟨b, 0, none⟩)], .int .i64 (x : Int), u27, u28, u29, u30], defers := [] }) ?assign ?body ?done ?stop
    case assign =>
      intro l2 x W K hK
      gi_wp2
      exact hK
    case body =>
      rintro l2 pre' x W hI hlen
      have hlen2 : pre ++ pre' ++ [x] <+: order ls := by
        obtain ⟨t, ht⟩ := hlen
        exact ⟨t ++ orderN p ls, by rw [HORD.out, ← ht]; simp⟩
      obtain ⟨fn, tmps, assign, body, hyr, hRd⟩ := HY.out (pre ++ pre') x W hI.1 hlen2
      have cy : W.cell? ⟨y, 0, none⟩ = some (.func (.yield l) #[] #[]) := hI.2.1.cell 0
      have HI5 := Lib.hid hI
      clear hI hlen hlen2
      gi_wp2
      refine ⟨fun _ => by omega, (round_wide hRd).mono ?_⟩
      rintro e W3 (⟨rfl, hJ3, hk3⟩ | ⟨rfl, hJ3, hk3⟩)
      · have HK3 := Lib.hid hk3
        have HJ3 := Lib.hid hJ3
        clear hJ3 hk3
        gi_wp2
        have hk3 := HK3.out
        obtain ⟨_, h2, h3, h4, h5⟩ := HI5.out
        have hsr := HSR.out
        have hs4 := HS4.out
        refine ⟨⟨hk3.1, fun k o hB hk' _ => hk3.2 k o (.inl (by omega)) hk'⟩, ?_, by rw [← List.append_assoc]; exact HJ3.out, hk3.row (.inl (Nat.le_refl _)) h2, hk3.row (.inr (.inr rfl)) h3, hk3.row (.inr (.inl rfl)) h4, h5.kpO HO.out.2.2.2.2.2.2.2.2 hk3⟩
        intro k hk cs t hr
        refine hk3.row ?_ hr
        simp only [List.mem_cons, List.not_mem_nil, or_false] at hk
        omega
      · have HK3 := Lib.hid hk3
        have HJ3 := Lib.hid hJ3
        clear hJ3 hk3
        gi_wp2
        have hk3 := HK3.out
        obtain ⟨_, h2, h3, h4, h5⟩ := HI5.out
        have hsr := HSR.out
        have hs4 := HS4.out
        refine ⟨⟨hk3.1, fun k o hB hk' _ => hk3.2 k o (.inl (by omega)) hk'⟩, ?_, rfl, by rw [← List.append_assoc]; exact HJ3.out, hk3.row (.inl (Nat.le_refl _)) h2, hk3.row (.inr (.inr rfl)) h3, hk3.row (.inr (.inl rfl)) h4, h5.kpO HO.out.2.2.2.2.2.2.2.2 hk3⟩
        intro k hk cs t hr
        refine hk3.row ?_ hr
        simp only [List.mem_cons, List.not_mem_nil, or_false] at hk
        omega
    case done =>
      rintro D xs W hD rfl hI hm
      have c1 : W.cell? ⟨bq, 0, none⟩ = some (.pointer (some ⟨B, 0, none⟩)) := hI.2.2.1.cell 0
      have HI5 := Lib.hid hI
      have HD := Lib.hid hD
      have HMD := Lib.hid hm
      clear hI hD hm
      gi_wp2_with (refine ⟨trivial, fun _ => by omega, ?_⟩; gi_at_call 163; refine (callsIn_wide.2 (below_any HI5.out.2.2.2.1 (fun j _ => HI.out.r.flt j) p (by have := HP256.out; show p ≤ 256; omega))).mono ?_; rintro e w5 ⟨rfl, g5⟩)
      rw [top_below HI.out.r p (by have := HP256.out; show p ≤ 256; omega)]
      obtain ⟨h256, hord, hj, hy, hb, hq, hma, hnd, hN⟩ := HO.out
      have hD := HD.out
      have hs4 := HS4.out
      have hsr := HSR.out
      have hds := HI4.out.2
      refine ⟨⟨p, pre ++ (hd :: r), D :: ds, _, _, _, _, _, _, _, _, _, _, _, _, _, _, _, _, _, _, _, _, _, _, _, _, _, _, _, rfl, Nat.le_of_lt HP256.out, HORD.out, HJ.out _ _ _ none HI5.out.1 g5 (fun r e => by cases e), HI5.out.2.1.kept g5 (by simp), HI5.out.2.2.1.kept g5 (by simp), QAt.kept HI5.out.2.2.2.1 g5 (by simp), ?_, ?_, ?_⟩, ?_⟩
      · exact (HI5.out.2.2.2.2.cons HMD.out).far (B0 := W.heap.size) (fun x hx => (Array.getElem?_eq_some_iff.1 (HI5.out.2.2.2.2.cons HMD.out x hx)).1) g5 (fun r e => by cases e)
      · exact List.nodup_cons.2 ⟨fun h => by have := hds D h; omega, hnd⟩
      · intro x hx
        rcases List.mem_cons.1 hx with rfl | hx
        · omega
        · exact hN x hx
      · show (intOf (Value.int .i64 (topN p ls)) + 1).toNat < (intOf (Value.int .i64 (p : Int)) + 1).toNat
        simp only [intOf]
        rcases topN_or ls p with h | ⟨p', h⟩
        · omega
        · have := (topN_some h).1; omega
    case stop =>
      rintro D c pre' W hD hp ⟨rfl, hI⟩ hm
      have HI5 := Lib.hid hI
      have HD := Lib.hid hD
      have HMD := Lib.hid hm
      clear hI hD hm
      gi_wp2
      obtain ⟨h256, hord, hj, hy, hb, hq, hma, hnd, hN⟩ := HO.out
      have hD := HD.out
      have hs4 := HS4.out
      have hsr := HSR.out
      have hds := HI4.out.2
      refine leaves_marks (N := y) (Jx (pre ++ pre')) (fun w D hk hD ho => HJX.out.putObj _ hk hD ho rfl) (fun w hk => ⟨_, results_none rfl _ _ _, ⟨_, rfl⟩, .inr ⟨_, ?_, hk⟩⟩) (D :: ds) W ?_ ?_ (HI5.out.2.2.2.2.cons HMD.out) HI5.out.1
      · exact List.nodup_cons.2 ⟨fun h => by have := hds D h; omega, hnd⟩
      · intro x hx
        rcases List.mem_cons.1 hx with rfl | hx
        · omega
        · exact hN x hx
      · obtain ⟨t, ht⟩ := hp
        exact ⟨t ++ orderN p ls, by rw [HORD.out, ← ht]; simp⟩
end Go.Proofs.YtjaaljcdaamcjaaGreat.Rd
