/- Interrupts, plain: a line is as its own calls have left it. -/
import Derived.Test.YtbnchmhhhildnaaXzr
namespace Go.Proofs.Ytbnchmhhhildnaa
open Go.RowKit Go.Maps
set_option linter.unusedVariables false

theorem lnAt_nat {s : IS} {n : Nat} {l : IL} (h : s.ls[n]? = some l) : lnAt s n = some l := by
  unfold lnAt
  rw [if_pos (by omega), Int.toNat_natCast, h]
/-- A call that InterruptsApart allows. -/
def okO (o : OpR) : Bool := !(o.kd == 1 || decide (o.kd < 0) || decide (5 < o.kd) || (o.kd != 0 && decide (0 ≤ o.ix)))
/-- A call of line n's own. -/
def ownO (n : Nat) (o : OpR) : Bool := o.kd == 5 || o.ln == n
theorem okO_cases {o : OpR} (h : okO o = true) : o.kd = 0 ∨ (o.kd = 2 ∧ o.ix < 0) ∨ (o.kd = 3 ∧ o.ix < 0) ∨ (o.kd = 4) ∨ (o.kd = 5) := by
  simp [okO] at h
  omega
theorem Sim.att {s t : IS} {n : Nat} {l m : IL} (h : Sim s t n l m) (ks : IOk s) (kt : IOk t) (hs : s.att.length < 100) (ht : t.att.length < 100) (th k c p d v : Int) (fi : Bool) : ∃ l' m', Sim (stA s n th k c p d v fi).1 (stA t n th k c p d v fi).1 n l' m' := by
  unfold stA
  rw [lnAt_nat h.ls, lnAt_nat h.lt]
  simp only [Int.toNat_natCast]
  by_cases hz : ckN th k c p d = 0
  · rw [if_pos hz, if_pos hz, if_pos hs, if_pos ht]
    have e1 := fx_att ks h.ls (k := n) l fi ⟨n, th, k, c, p, d, v⟩
    have e2 := fx_att kt h.lt (k := n) m fi ⟨n, th, k, c, p, d, v⟩
    have f1 := fx_new ks n (k := n) l fi ⟨n, th, k, c, p, d, v⟩
    have f2 := fx_new kt n (k := n) m fi ⟨n, th, k, c, p, d, v⟩
    refine ⟨_, _, setLs_get h.ls, setLs_get h.lt, h.p, h.sp, h.own, ?_⟩
    show (if fi then ((lf s.att : Nat) : Int) :: l.o else l.o ++ [((lf s.att : Nat) : Int)]).map (fx (attS s n l fi ⟨n, th, k, c, p, d, v⟩) n) = (if fi then ((lf t.att : Nat) : Int) :: m.o else m.o ++ [((lf t.att : Nat) : Int)]).map (fx (attS t n m fi ⟨n, th, k, c, p, d, v⟩) n)
    have g1 : l.o.map (fx (attS s n l fi ⟨n, th, k, c, p, d, v⟩) n) = l.o.map (fx s n) := List.map_congr_left e1
    have g2 : m.o.map (fx (attS t n m fi ⟨n, th, k, c, p, d, v⟩) n) = m.o.map (fx t n) := List.map_congr_left e2
    cases fi
    · simp only [Bool.false_eq_true, if_false, List.map_append, List.map_cons, List.map_nil]
      rw [g1, g2, f1, f2, h.o]
    · simp only [if_true, List.map_cons]
      rw [g1, g2, f1, f2, h.o]
  · rw [if_neg hz, if_neg hz]
    exact ⟨l, m, h⟩
theorem Sim.cns {s t : IS} {n : Nat} {l m : IL} (h : Sim s t n l m) (ks : IOk s) (kt : IOk t) (v : Int) : Sim (setCn s ((n : Int), -1) v) (setCn t ((n : Int), -1) v) n l m := by
  have g : ∀ (u : IS) (ku : IOk u) (lu : IL), u.ls[n]? = some lu → lu.o.map (fx (setCn u ((n : Int), -1) v) n) = lu.o.map (fx u n) := fun u ku lu hu => List.map_congr_left fun x hx => by
    unfold fx
    rw [show (setCn u ((n : Int), -1) v).cn ((n : Int), x) = u.cn ((n : Int), x) from upd_other (fun e => ku.onn hu x hx (congrArg Prod.snd e))]
    rfl
  exact ⟨h.ls, h.lt, h.p, h.sp, (upd_same _ _ _).trans (upd_same _ _ _).symm, by rw [g s ks l h.ls, g t kt m h.lt, h.o]⟩
theorem fdE_low {s : IS} (ks : IOk s) {n : Nat} {l : IL} (hl : s.ls[n]? = some l) {x : Int} (hx : x < -1) : fdE s n x = 3 := by
  have hn := (List.getElem?_eq_some_iff.1 hl).1
  unfold fdE
  rw [if_pos (by omega), if_neg (by omega), Int.toNat_natCast, hl]
  simp only
  rw [if_neg]
  intro hc
  have hc : x ∈ l.o := by simpa using hc
  obtain ⟨u, hu, _⟩ := (ks.ord n l x hl).1 hc
  have := (ks.key _ (get_mem hu)).1
  simp at this
  omega
theorem Sim.mask {s t : IS} {n : Nat} {l m : IL} (h : Sim s t n l m) (ks : IOk s) (kt : IOk t) {x : Int} (hx : x < 0) : Sim (stM s n x).1 (stM t n x).1 n l m ∧ Sim (stU s n x).1 (stU t n x).1 n l m := by
  by_cases e : x = -1
  · subst e
    unfold stM stU
    rw [fdE_own h.ls, fdE_own h.lt, h.own]
    simp only [if_true]
    constructor
    · split
      · exact h
      · exact h.cns ks kt _
    · split
      · exact h
      · exact h.cns ks kt _
  · unfold stM stU
    rw [fdE_low ks h.ls (by omega), fdE_low kt h.lt (by omega)]
    exact ⟨h, h⟩
theorem Sim.raise {s t : IS} {n : Nat} {l m : IL} (h : Sim s t n l m) : ∃ l' m', Sim (stR s n).1 (stR t n).1 n l' m' := by
  unfold stR
  rw [lnAt_nat h.ls, lnAt_nat h.lt]
  simp only [Int.toNat_natCast]
  exact ⟨_, _, setLs_get h.ls, setLs_get h.lt, rfl, h.sp, h.own, h.o⟩
theorem Sim.both {s t : IS} {n : Nat} {l m : IL} (h : Sim s t n l m) (ks : IOk s) (kt : IOk t) (hs : s.att.length < 100) (ht : t.att.length < 100) {o : OpR} (hk : okO o = true) (ho : ownO n o = true) : ∃ l' m', Sim (stepI s o) (stepI t o) n l' m' := by
  obtain ⟨kd, ln, ix, k, c, p, d, v, fi⟩ := o
  have hc := okO_cases hk
  simp only [] at hc
  simp [ownO] at ho
  rcases hc with rfl | ⟨rfl, hx⟩ | ⟨rfl, hx⟩ | rfl | rfl
  · have hn : ln = n := by simpa using ho
    subst hn
    exact h.att ks kt hs ht _ _ _ _ _ _ _
  · have hn : ln = n := by simpa using ho
    subst hn
    exact ⟨_, _, (h.mask ks kt hx).1⟩
  · have hn : ln = n := by simpa using ho
    subst hn
    exact ⟨_, _, (h.mask ks kt hx).2⟩
  · have hn : ln = n := by simpa using ho
    subst hn
    exact h.raise
  · exact h.deliver ks kt
/-- What leaves line n be. -/
theorem Sim.left {s s' t : IS} {n : Nat} {l m : IL} (h : Sim s t n l m) (hl : s'.ls[n]? = some l) (hc : ∀ x, s'.cn ((n : Int), x) = s.cn ((n : Int), x)) (ha : ∀ x ∈ l.o, get s'.att x = get s.att x) : Sim s' t n l m :=
  ⟨hl, h.lt, h.p, h.sp, by rw [hc, h.own], by
    rw [← h.o]
    exact List.map_congr_left fun x hx => by unfold fx; rw [hc, ha x hx]⟩
theorem Sim.one {s t : IS} {n : Nat} {l m : IL} (h : Sim s t n l m) (ks : IOk s) {o : OpR} (hk : okO o = true) (ho : ownO n o = false) : Sim (stepI s o) t n l m := by
  obtain ⟨kd, ln, ix, k, c, p, d, v, fi⟩ := o
  have hc := okO_cases hk
  simp only [] at hc
  simp [ownO] at ho
  obtain ⟨h5, hn⟩ := ho
  rcases hc with rfl | ⟨rfl, hx⟩ | ⟨rfl, hx⟩ | rfl | rfl
  · show Sim (stA s ln ix k c p d v fi).1 t n l m
    unfold stA
    cases hln : lnAt s ln with
    | none => exact h
    | some q =>
      obtain ⟨r, rfl, hr⟩ := lnAt_some hln
      simp only [Int.toNat_natCast]
      split
      · split
        · refine h.left ?_ (fun x => rfl) (fun x hx => ?_)
          · show (s.ls.set r _)[n]? = _
            rw [List.getElem?_set_ne (by omega)]; exact h.ls
          · show get (ins _ _ _) x = _
            rw [get_ins _ _ _ _ ks.srt, if_neg]
            intro e
            obtain ⟨u, hu, _⟩ := (ks.ord n l x h.ls).1 hx
            rw [← e, (lf_ok ks).2.1] at hu; cases hu
        · exact h
      · exact h
  · show Sim (stM s ln ix).1 t n l m
    unfold stM
    split
    · split
      · exact h
      · exact h.left h.ls (fun x => upd_other (fun e => hn (congrArg Prod.fst e).symm)) (fun _ _ => rfl)
    · exact h
  · show Sim (stU s ln ix).1 t n l m
    unfold stU
    split
    · split
      · exact h
      · exact h.left h.ls (fun x => upd_other (fun e => hn (congrArg Prod.fst e).symm)) (fun _ _ => rfl)
    · exact h
  · show Sim (stR s ln).1 t n l m
    unfold stR
    cases hln : lnAt s ln with
    | none => exact h
    | some q =>
      obtain ⟨r, rfl, hr⟩ := lnAt_some hln
      simp only [Int.toNat_natCast]
      refine h.left ?_ (fun x => rfl) (fun x hx => rfl)
      show (s.ls.set r _)[n]? = _
      rw [List.getElem?_set_ne (by omega)]; exact h.ls
  · exact absurd rfl h5
theorem stepI_att {s : IS} (h : IOk s) (o : OpR) : (stepI s o).att.length ≤ s.att.length + 1 := by
  unfold stepI
  split
  · unfold stA
    split
    · show s.att.length ≤ _; omega
    · split
      · split
        · show (ins _ _ _).length ≤ _
          rw [len_ins_new (lf_ok h).2.1]; omega
        · show s.att.length ≤ _; omega
      · show s.att.length ≤ _; omega
  · split
    · cases hg : get s.att o.ix with
      | none => unfold stD; rw [hg]; show s.att.length ≤ _; omega
      | some t =>
        obtain ⟨m, l, h1, h2, h3⟩ := line_of h hg
        rw [h3]
        have : (del o.ix s.att).length ≤ s.att.length := List.length_filter_le _ _
        show (del _ _).length ≤ _
        omega
    · split
      · unfold stM; split
        · split <;> (show s.att.length ≤ _; omega)
        · show s.att.length ≤ _; omega
      · split
        · unfold stU; split
          · split <;> (show s.att.length ≤ _; omega)
          · show s.att.length ≤ _; omega
        · split
          · unfold stR
            split <;> (show s.att.length ≤ _; omega)
          · split
            · unfold stV; rw [dA_att]; omega
            · omega
theorem Sim.run {n : Nat} : ∀ (P : List OpR) {s t : IS} {l m : IL}, Sim s t n l m → IOk s → IOk t → s.att.length + P.length < 100 → t.att.length + P.length < 100 → (∀ o ∈ P, okO o = true) → ∃ l' m', Sim (runS s P) (runS t (P.filter (ownO n))) n l' m'
  | [], s, t, l, m, h, _, _, _, _, _ => ⟨l, m, h⟩
  | o :: r, s, t, l, m, h, ks, kt, hs, ht, hk => by
    have a1 := stepI_att ks o
    have a2 := stepI_att kt o
    rw [List.length_cons] at hs ht
    rw [List.filter_cons]
    cases ho : ownO n o
    · simp only [Bool.false_eq_true, if_false]
      exact Sim.run r (h.one ks (hk o (by simp)) ho) (stepI_ok ks o) kt (by omega) (by omega) (fun q hq => hk q (by simp [hq]))
    · simp only [if_true]
      obtain ⟨l', m', h'⟩ := h.both ks kt (by omega) (by omega) (hk o (by simp)) ho
      exact Sim.run r h' (stepI_ok ks o) (stepI_ok kt o) (by omega) (by omega) (fun q hq => hk q (by simp [hq]))
theorem sim_new {cs ds : List Nat} {n : Nat} (h1 : n < cs.length) (h2 : n < ds.length) : ∃ l m, Sim (newS cs) (newS ds) n l m := by
  refine ⟨⟨cs[n], [], false, 0⟩, ⟨ds[n], [], false, 0⟩, ?_, ?_, rfl, rfl, rfl, rfl⟩
  · show (cs.map _)[n]? = _
    simp [h1]
  · show (ds.map _)[n]? = _
    simp [h2]
end Go.Proofs.Ytbnchmhhhildnaa
