/- Timers: armed: it collects the numbers of the armed timers and sorts them. -/
import Derived.Test.YtkjokmfhmppinaaOr
namespace Go.Proofs.Ytkjokmfhmppinaa
open Go.RowKit Go.Maps Go.Shelf
set_option linter.unusedVariables false

/-- What a caller of armed keeps: the set, but for the timers that have come. -/
def MA (B b : Nat) (l : TS) (c : Int) (pre : List (Int × Tm)) (W : World) : Prop := ∃ l', TQ W B b l' c ∧ ∀ x, (∀ p ∈ pre, p.1 ≠ x) → get l' x = get l x
/-- The armed timers in the order in which they fire. -/
def SA (l : TS) (ys : List (Int × Tm)) : Prop := ys.Pairwise (fun p q => p.2.f < q.2.f ∨ p.2.f = q.2.f ∧ p.1 < q.1) ∧ (∀ x t, (x, t) ∈ ys ↔ get l x = some t ∧ t.f ≠ 0) ∧ ys.length ≤ l.length
theorem own_get {W : World} {lo n : Nat} {v : Value} {xs : List Int} (h : W.ownsRow lo 3 1 v n (xs.map ie)) (h0 : 0 < n) : ∃ g cap, v = .slice (some ⟨g, 0, none⟩) n cap ∧ lo ≤ g ∧ IR W g n cap (fun i => xs.getD i 0) ∧ xs.length = n := by
  have hn : xs.length = n := by have := h.1; simpa using this
  rcases h.2 with ⟨_, h1⟩ | ⟨g, cap, cur, h1, h2, h3, h4, h5, h6, h7⟩
  · omega
  · refine ⟨g, cap, h1, h2, ⟨cur, h3, by omega, h4, fun i hi => ?_⟩, hn⟩
    rw [Nat.mul_one] at h7
    have e : (cur.toList.take n)[i]? = (xs.map ie)[i]? := by rw [h7]
    rw [List.getElem?_take, if_pos hi, Array.getElem?_toList, List.getElem?_map] at e
    rw [e, List.getElem?_eq_getElem (show i < xs.length by omega)]
    show some (ie _) = some (Value.int .i64 (xs.getD i 0))
    rw [List.getD_eq_getElem?_getD, List.getElem?_eq_getElem (show i < xs.length by omega)]
    rfl
theorem nd_inj {xs : List Int} (h : xs.Nodup) {i j : Nat} (hi : i < xs.length) (hj : j < xs.length) (e : xs[i] = xs[j]) : i = j := by
  have hp := List.pairwise_iff_getElem.1 h
  rcases Nat.lt_trichotomy i j with h1 | h1 | h1
  · exact absurd e (hp i j hi hj h1)
  · exact h1
  · exact absurd e.symm (hp j i hj hi h1)
/-- The timers by their numbers, in the order of a row. -/
def rowT (l : TS) (A : Nat → Int) (n : Nat) : List (Int × Tm) := (List.range n).map fun i => (A i, (get l (A i)).getD tz)
theorem rowT_len (l : TS) (A : Nat → Int) (n : Nat) : (rowT l A n).length = n := by simp [rowT]
theorem rowT_take (l : TS) (A : Nat → Int) {i n : Nat} (h : i < n) : (rowT l A n).take (i + 1) = (rowT l A n).take i ++ [(A i, (get l (A i)).getD tz)] := by
  rw [List.take_add_one]
  simp [rowT, h]
theorem rowT_mem {l : TS} {A : Nat → Int} {i n : Nat} (h : i ≤ n) {p : Int × Tm} (hp : p ∈ (rowT l A n).take i) : ∃ j, j < i ∧ p.1 = A j := by
  rw [List.mem_take_iff_getElem] at hp
  obtain ⟨j, hj, e⟩ := hp
  simp [rowT] at hj e
  exact ⟨j, by omega, by rw [← e]⟩
theorem sa_row {l : TS} {xs : List Int} {A : Nat → Int} {n : Nat} (hv : ∀ x, x ∈ xs ↔ ∃ t, get l x = some t ∧ t.f ≠ 0) (hn : xs.length = n) (hS : Sm n A (fun i => xs.getD i 0)) (hU : Up (cdue l) A 0 n) (hl : n ≤ l.length) : SA l (rowT l A n) := by
  have hA : ∀ i, i < n → ∃ t, get l (A i) = some t ∧ t.f ≠ 0 := fun i hi => by
    obtain ⟨j, hj, e⟩ := hS.to i hi
    rw [← hv, e]
    show xs.getD j 0 ∈ xs
    rw [List.getD_eq_getElem?_getD, List.getElem?_eq_getElem (by omega)]; exact List.getElem_mem _
  refine ⟨?_, ?_, by rw [rowT_len]; exact hl⟩
  · rw [List.pairwise_iff_getElem]
    intro i j hi hj hij
    rw [rowT_len] at hi hj
    simp only [rowT, List.getElem_map, List.getElem_range]
    obtain ⟨t, t1, _⟩ := hA i hi
    obtain ⟨u, u1, _⟩ := hA j hj
    have := (cdue_lt t1 u1).1 (hU i j (Nat.zero_le _) hij hj)
    rw [t1, u1]
    simp only [Option.getD_some]
    have hne : A i ≠ A j := fun e => by have := hS.inj i j hi hj e; omega
    omega
  · intro x t
    unfold rowT
    rw [List.mem_map]
    constructor
    · rintro ⟨i, hi, e⟩
      rw [List.mem_range] at hi
      obtain ⟨u, u1, u2⟩ := hA i hi
      rw [u1] at e
      simp at e
      obtain ⟨rfl, rfl⟩ := e
      exact ⟨u1, u2⟩
    · rintro ⟨h1, h2⟩
      obtain ⟨j, hj, e⟩ := List.getElem_of_mem ((hv x).2 ⟨t, h1, h2⟩)
      obtain ⟨i, hi, e2⟩ := hS.fro j (by omega)
      have e3 : A i = x := by
        rw [e2]
        show xs.getD j 0 = x
        rw [List.getD_eq_getElem?_getD, List.getElem?_eq_getElem hj]; exact e
      exact ⟨i, by simpa using hi, by rw [e3, h1]; rfl⟩
theorem own_lo {W : World} {lo n k : Nat} {t : TypeId} {s : Nat} {v : Value} {xs : List Value} (h : W.ownsRow lo t s v n xs) (hk : v.ownBlock = some k) : lo ≤ k := by
  rcases h.2 with ⟨h1, _⟩ | ⟨g, cap, cur, h1, h2, _⟩
  · rw [h1] at hk; cases hk
  · rw [h1] at hk; cases hk; exact h2
set_option maxRecDepth 100000 in
set_option maxHeartbeats 8000000 in
theorem armed_word (m : Nat) (hm : 3 ≤ m) {w : World} {B b : Nat} {l : TS} {c : Int} (h : TQ w B b l c) (hne : ∃ x t, get l x = some t ∧ t.f ≠ 0) (hso : ∀ n, n ≤ l.length → SortOK n) :
    SeqWord Fence.wide m Try.prog 46 #[.pointer (some ⟨B, 0, none⟩)] #[] (fun p : Int × Tm => #[.int .i64 p.1, tmE p.2]) KpI (MA B b l c) (SA l) (fun pre => ∃ rest, SA l (pre ++ rest)) w := by
  intro k J Jx W hW hgW hJ hJx hJM hY h0
  have HQ : Hid (TQ W B b l c) := h.no (Fr.grown hgW (fun _ e => by cases e))
  have HLN : Hid (l.length ≤ 1000) := h.len
  have HNE := Lib.hid hne
  have HSO := Lib.hid hso
  have HJM := Lib.hid hJM
  have HY := Lib.hid hY
  have H0 := Lib.hid h0
  have c0 : W.cell? ⟨B, 0, none⟩ = some (.map (some b)) := HQ.out.row.cell 0
  have HM := Lib.hid HQ.out.map
  obtain ⟨i0, hi, hz0, hz1, hz2⟩ := info_parts info_int
  clear h hne hso hW hgW hJ hJx hJM hY h0
  refine callsIn_of_wp Try.func46 rfl trivial ?_ rfl
  simp only [Try.ntmps46, List.size_toArray, List.length_cons, List.length_nil, Nat.reduceAdd, Nat.reduceSub, Array.replicate_succ, Array.replicate_zero, List.push_toArray, List.append_toArray, List.nil_append, List.cons_append]
  refine wpIn_wide.2 ?_
  go_wp2_with (first
    | (at_range; refine wpList_range_own _ rfl _ 65 rfl 3 81 keyedI Try.underlying65 tmR b l.length _ rfl HM.out ?_; intro w0 hrg0 hg0 hs0))
  (try go_frame)
  have HRG0 := Lib.hid hrg0
  have HF0 : Hid (Fr No W w0) := Fr.grown hg0 (fun k e => by cases e)
  clear hrg0 hg0 hs0 c0
  generalize hr : W.heap.size = r at HRG0 ⊢
  have HR := Lib.hid hr
  clear hr
  go_loopw [4] (fun v4 wr => ∃ (left : Lit → Bool) (cnt : Nat) (xs : List Int), Hid (wr.ownsRow (r + 1) 3 1 v4 xs.length (xs.map ie) ∧ Col l left xs cnt ∧ wr.ranges Try.prog 3 tmR b r l.length (Dof l) left cnt ∧ Fr No W wr ∧ r + 1 ≤ wr.heap.size)) (fun _ wr => wr.rangeLeft b r)
  case atStart => exact ⟨_, l.length, [], World.ownsRow_nil _ _ _ _, Col.start l, by have := HRG0.out; rw [dsize] at this; exact this, HF0.out, HRG0.out.lt⟩
  case round =>
    obtain ⟨left, cnt, xs, HI⟩ := hrel
    have HRG := Lib.hid HI.out.2.2.1
    go_wp2_with (at_next; refine wpList_nextT rfl _ rfl b r l.length l _ _ rfl HRG.out ?_ ?_)
    · intro hl0
      have HV := Lib.hid (HI.out.2.1.fin hl0)
      have hpos : 0 < xs.length := by
        obtain ⟨x, t, h1, h2⟩ := HNE.out
        exact List.length_pos_of_mem ((HV.out x).2 ⟨t, h1, h2⟩)
      obtain ⟨g, cap, rfl, hlo, hir, _⟩ := own_get HI.out.1 hpos
      have HGW : Hid (W.heap.size < g) := by have := HR.out; show _ < _; omega
      have HQr := Lib.hid (HQ.out.no HI.out.2.2.2.1)
      have HBB : Hid (B < W.heap.size ∧ b < W.heap.size) := ⟨HQ.out.row.lt, HQ.out.map.lt⟩
      have HK : Hid (∀ x, x ∈ xs → isW x) := fun x hx => by
        obtain ⟨t, h1, _⟩ := (HV.out x).1 hx
        have := HQ.out.key _ (get_mem h1)
        exact wf6 (by omega) (by omega)
      have HND := Lib.hid HI.out.2.1.nd
      have HLX : Hid (xs.length ≤ l.length) := by have := HI.out.2.1.len; show _ ≤ _; omega
      have HFr := Lib.hid HI.out.2.2.2.1
      have hcm : CmpAt wr B g isW (cdue l) := fun w1 f x y hx hy => cdue_ok (HQr.out.fr f (by have := HBB.out.1; have := HGW.out; omega) (by have := HBB.out.2; have := HGW.out; omega)) hx hy
      have HSF := Lib.hid (HSO.out xs.length HLX.out wr B g cap (fun i => xs.getD i 0) isW (cdue l) (cdue_ord l) hcm (fun i hi => HK.out _ (by
        show xs.getD i 0 ∈ xs
        rw [List.getD_eq_getElem?_getD, List.getElem?_eq_getElem hi]; exact List.getElem_mem hi)) hir (fun i j hi hj e => by
        have e' : xs.getD i 0 = xs.getD j 0 := e
        rw [List.getD_eq_getElem?_getD, List.getElem?_eq_getElem hi, List.getD_eq_getElem?_getD, List.getElem?_eq_getElem hj] at e'
        exact nd_inj HND.out hi hj e'))
      have HP := Lib.hid hpos
      unfold dueF at HSF
      clear hl0 hpos hlo hir hcm HRG HI
      generalize hn : xs.length = n at HSF HP HLX ⊢
      have HN := Lib.hid hn
      clear hn
      go_wp2_with (go_at_call 59; refine HSF.out.mono ?_; rintro e w6 ⟨rfl, hS⟩; have HS := Lib.hid hS; clear hS)
      obtain ⟨A, hs1, hs2⟩ := HS.out
      have HSA := Lib.hid (sa_row HV.out HN.out hs1.2.1 hs2 HLX.out)
      have HIN := Lib.hid hs1.2.1.inj
      have HJ0 : Hid (J [] w6) := H0.out _ (HFr.out.over hs1.2.2 (fun i e => .inr (by have := HGW.out; omega)))
      have HIR := Lib.hid hs1.1
      have HAK : Hid (∀ i, i < n → ∃ t, get l (A i) = some t ∧ isW (A i)) := fun i hi => by
        obtain ⟨j, hj, e⟩ := hs1.2.1.to i hi
        have hm : A i ∈ xs := by
          rw [e]
          show xs.getD j 0 ∈ xs
          rw [List.getD_eq_getElem?_getD, List.getElem?_eq_getElem (by have := HN.out; omega)]; exact List.getElem_mem _
        obtain ⟨t, h1, _⟩ := (HV.out _).1 hm
        exact ⟨t, h1, HK.out _ hm⟩
      have n0 : (n : Int) ≤ 1000 := by have := HLX.out; have := HLN.out; omega
      clear hs1 hs2
      refine (wpIn_wide (n := m)).1 ?_
      gi_loopw [32] (fun vi wr2 => ∃ i : Nat, vi = .int .i64 i ∧ Hid (i ≤ n ∧ J ((rowT l A n).take i) wr2 ∧ IR wr2 g n cap A)) (fun vi _ => n - (intOf vi).toNat)
      case atStart => exact ⟨0, rfl, Nat.zero_le _, HJ0.out, HIR.out⟩
      case round =>
        obtain ⟨i, rfl, HI⟩ := hrel
        have i0' : (0 : Int) ≤ i := by omega
        by_cases hi : i < n
        · have i1 : (i : Int) < n := by omega
          have HMS : Hid (n - (intOf (Value.int IntKind.i64 ((i : Int) + 1))).toNat < n - (intOf (Value.int IntKind.i64 (i : Int))).toNat) := by
            show _ < _
            simp only [intOf]
            omega
          have HIX := Lib.hid hi
          obtain ⟨t, ht, hw⟩ := HAK.out i hi
          obtain ⟨l', hq, hl⟩ := HJM.out _ _ HI.out.2.1
          have hgt : get l' (A i) = some t := by
            rw [hl _ (fun p hp => ?_), ht]
            obtain ⟨j, hj, e⟩ := rowT_mem (Nat.le_of_lt hi) hp
            rw [e]
            intro e2
            have := HIN.out j i (by omega) hi e2
            omega
          have hL := hq.map.look hw
          rw [hgt] at hL
          have HL : (Instr.lookup 65 (.map (some b)) (.int .i64 (A i)) false).run Try.prog wr = .ok (tmE t) wr := hL
          have c1 : wr.cell? ⟨B, 0, none⟩ = some (.map (some b)) := hq.row.cell 0
          have c2 : wr.cell? ⟨g, i, none⟩ = some (.int .i64 (A i)) := HI.out.2.2.cell hi
          have htk := rowT_take l A hi
          rw [ht] at htk
          have HTK : Hid ((rowT l A n).take (i + 1) = (rowT l A n).take i ++ [(A i, t)]) := htk
          have hsp : ∃ rest, SA l ((rowT l A n).take i ++ [(A i, t)] ++ rest) := ⟨(rowT l A n).drop (i + 1), by rw [← HTK.out, List.take_append_drop]; exact HSA.out⟩
          obtain ⟨fn, tmps, assign, body, hyr, hRd⟩ := HY.out _ (A i, t) wr HI.out.2.1 hsp
          have HSP := Lib.hid hsp
          clear ht hw hq hl hgt hL htk hsp hi
          dsimp only at hyr
          gi_wp2
          refine ⟨fun _ => by omega, hRd.mono ?_⟩
          rintro e W3 (⟨rfl, hJ3, hk3⟩ | ⟨rfl, hJ3, hk3⟩)
          · have HJ3 := Lib.hid hJ3
            have HK3 := Lib.hid hk3
            clear hJ3 hk3 hRd hyr HL c1 c2
            gi_wp2
            refine ⟨⟨i + 1, by push_cast; rfl, HIX.out, by rw [HTK.out]; exact HJ3.out, HI.out.2.2.kp HK3.out⟩, HMS.out⟩
          · have HJ3 := Lib.hid hJ3
            clear hJ3 hk3 hRd hyr HL c1 c2
            gi_wp2
            refine bodyPost_ret (results_none rfl _ _ _) rfl ?_
            exact ⟨⟨_, rfl⟩, .inr ⟨_, HSP.out, HJ3.out⟩⟩
        · have he : i = n := by have := HI.out.1; omega
          subst he
          clear hi
          gi_wp2
          go_end0
          exact ⟨⟨_, rfl⟩, .inl ⟨_, HSA.out, by have := HI.out.2.1; rwa [List.take_of_length_le (by rw [rowT_len]; exact Nat.le_refl _)] at this⟩⟩
    · intro x t w1 cnt1 hwx hlx hg hrg1 hlt hf1 hen
      have HG := Lib.hid hg
      have HL := Lib.hid hlx
      have HF1 : Hid (Fr No W w1) := HI.out.2.2.2.1.newRow hf1 (by rw [HR.out]; exact Nat.le_refl _)
      have HRG1 := Lib.hid hrg1
      have HMS : Hid (cnt1 < wr.rangeLeft b r) := by show _ < _; rw [HRG.out.left_eq]; exact hlt
      have HLT := Lib.hid hlt
      have HC := Lib.hid HI.out.2.1
      have HS1 : Hid (r + 1 ≤ w1.heap.size) := Nat.le_trans HI.out.2.2.2.2 hf1.size
      have HO1 : Hid (w1.ownsRow (r + 1) 3 1 u4 xs.length (xs.map ie)) := own_fr2 HI.out.1 hf1 (fun k hk e => by
        have := own_lo HI.out.1 hk; omega)
      clear hwx hlx hg hrg1 hlt hf1
      unfold tmE at hen ⊢
      have HX := Lib.hid (RowAt.new w1 81 (tcs t))
      have HFX : Hid (Fr No w1 (w1.alloc (.cells (tcs t) 81))) := Fr.alloc _ _ _
      have HOX : Hid ((w1.alloc (.cells (tcs t) 81)).ownsRow (r + 1) 3 1 u4 xs.length (xs.map ie)) := own_fr2 HO1.out HFX.out (fun _ _ => id)
      have HSX : Hid (r + 1 ≤ (w1.alloc (.cells (tcs t) 81)).heap.size) := Nat.le_trans HS1.out HFX.out.size
      have HLB : Hid (b < w1.heap.size ∧ r < w1.heap.size) := ⟨World.ownsMap.lt HRG1.out.owns, HRG1.out.lt⟩
      go_upto_region 4 with (first
        | ((with_reducible refine st_gate ?_); refine wpList_store_row rfl 81 (Operand.tmp 6) (Operand.tmp 18) rfl w1.heap.size (tcs t) rfl rfl _ (tcs tz) (RowAt.new w1 _ _) (tcs_size t) rfl (tcs_one t) ?_; rw [World.setRow_alloc_new]))
      clear hen
      generalize World.alloc w1 _ = W2 at HX HFX HOX HSX ⊢
      generalize w1.heap.size = X at HX HLB ⊢
      have HSP : Hid (∀ w, Fr No W2 w → w.rangeAt X 6 [Value.int .i64 t.f, .int .i64 t.i, .int .i64 t.t]) := fun w f j v hv => by
        have hx := HX.out.fr f id
        match j, hv with
        | 0, hv => cases hv; exact hx.cell 6
        | 1, hv => cases hv; exact hx.cell 7
        | 2, hv => cases hv; exact hx.cell 8
      have HA := Lib.hid (isarmed_any t.f t.i t.t)
      unfold spV at HA
      have HRX : Hid (W2.ranges Try.prog 3 tmR b r l.length (Dof l) (fun z => left z && !z.sameKey (kl x)) cnt1) := HRG1.out.kept (row := none) ⟨HFX.out.os, HFX.out.tape, HFX.out.output, HFX.out.size, fun i hi _ => HFX.out.block i hi id⟩ (by simp) (by simp)
      have HFW : Hid (Fr No W W2) := HF1.out.trans HFX.out
      clear HF1 HFX HRG1 HRG HI HO1 HS1
      by_cases hf : t.f = 0
      · have hb : (!(t.f == 0)) = false := by simp [hf]
        rw [hb] at HA
        have HC2 := Lib.hid (HC.out.skip HG.out hf HLT.out)
        clear hf hb
        go_wp2_with (first
          | ((with_reducible refine ld_gate ?_); refine wpList_load_mid rfl 31 (Operand.tmp 19) rfl X 6 rfl [_, _, _] _ (HSP.out _ (Fr.refl _ _)) Try.underlying31 rfl size_spec ?_; go_frame)
          | (go_at_call 35; refine (HA.out _).mono ?_; rintro e w3 ⟨rfl, f3⟩; have F3 := Lib.hid f3; clear f3))
        have HR3 : Hid (w3.ranges Try.prog 3 tmR b r l.length (Dof l) (fun z => left z && !z.sameKey (kl x)) cnt1) := HRX.out.kept (row := none) ⟨F3.out.os, F3.out.tape, F3.out.output, F3.out.size, fun i hi _ => F3.out.block i hi id⟩ (by simp) (by simp)
        go_roundw
        case rel => exact ⟨_, cnt1, xs, own_fr2 HOX.out F3.out (fun _ _ => id), HC2.out, HR3.out, HFW.out.trans F3.out, Nat.le_trans HSX.out F3.out.size⟩
        case measure => rw [HR3.out.left_eq]; exact HMS.out
      · have hb : (!(t.f == 0)) = true := by simp [hf]
        rw [hb] at HA
        have HC2 := Lib.hid (HC.out.add HG.out hf HL.out HLT.out)
        clear hf hb
        have HB1 : Hid (xs.length + 1 ≤ 1000) := by have h1 := HC.out.len; have h2 := HLN.out; have h3 := HLT.out; show _ ≤ _; omega
        go_wp2_with (first
          | ((with_reducible refine ld_gate ?_); refine wpList_load_mid rfl 31 (Operand.tmp 19) rfl X 6 rfl [_, _, _] _ (HSP.out _ (Fr.refl _ _)) Try.underlying31 rfl size_spec ?_; go_frame)
          | (go_at_call 35; refine (HA.out _).mono ?_; rintro e w3 ⟨rfl, f3⟩; have F3 := Lib.hid f3; clear f3)
          | (at_builtin; refine wpList_append_own _ rfl (Operand.tmp 22) (Operand.tmp 24) 38 rfl (r + 1) 3 i0 (.int .i64 0) 1 8 Try.underlying38 hi hz0 hz1 hz2 rfl (by decide) u4 xs.length (xs.map ie) rfl ((own_fr2 HOX.out F3.out (fun _ _ => id)).alloc _) ⟨w3.heap.size, 0, none⟩ 1 1 [.int .i64 x] rfl rfl (cell_one_new _ _ _) (by simp [Value.oneCell']) (by have := HB1.out; unfold maxLen; omega) (by have := HB1.out; omega) (by have := HSX.out; have := F3.out.size; simp; omega) ?_; intro v' w5 hown' hgrow hnil))
        have HO5 := Lib.hid hown'
        have HG5 := Lib.hid hgrow
        clear hown' hgrow hnil
        have HF5 : Hid (Fr (fun k => u4.ownBlock = some k) W2 w5) := ((F3.out.any.trans (Fr.alloc _ _ _)).trans (Fr.grown HG5.out (fun k e => e)))
        have HRR : Hid (w5.ranges Try.prog 3 tmR b r l.length (Dof l) (fun z => left z && !z.sameKey (kl x)) cnt1) := by
          refine HRX.out.kept (row := u4.ownBlock) ⟨HF5.out.os, HF5.out.tape, HF5.out.output, HF5.out.size, fun i hi hne => HF5.out.block i hi (fun e => hne e.symm)⟩ (fun e => ?_) (fun e => ?_)
          · have h1 := own_lo HOX.out e.symm; have h2 := HM.out.lt; have h3 := HR.out; omega
          · have := own_lo HOX.out e.symm; omega
        go_roundw
        case rel => exact ⟨_, cnt1, xs ++ [x], by simpa [ie] using HO5.out, HC2.out, HRR.out, HFW.out.over HF5.out (fun i e => .inr (by have := own_lo HOX.out e; have := HR.out; omega)), Nat.le_trans HSX.out HF5.out.size⟩
        case measure => rw [HRR.out.left_eq]; exact HMS.out
end Go.Proofs.Ytkjokmfhmppinaa
