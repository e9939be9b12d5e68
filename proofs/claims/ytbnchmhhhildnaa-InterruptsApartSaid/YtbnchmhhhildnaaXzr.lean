/- Interrupts, plain: two controllers that agree on a line. -/
import Derived.Test.YtbnchmhhhildnaaXzk
namespace Go.Proofs.Ytbnchmhhhildnaa
open Go.RowKit Go.Maps
set_option linter.unusedVariables false

/-- What counts of an attachment: its count, and whether it is a handler. -/
def fx (s : IS) (n : Nat) (x : Int) : Int × Bool := (s.cn ((n : Int), x), ((get s.att x).getD tz).k == 0)
def sumF : List (Int × Bool) → Int
  | [] => 0
  | p :: r => p.1 + sumF r
theorem slq_fx (s : IS) (n : Nat) (o : List Int) : slq s.cn n o = sumF (o.map (fx s n)) := by
  induction o with
  | nil => rfl
  | cons a r ih => rw [slq, List.map_cons, sumF, ih]; rfl
/-- Two controllers agree on line n. -/
structure Sim (s t : IS) (n : Nat) (l m : IL) : Prop where
  ls : s.ls[n]? = some l
  lt : t.ls[n]? = some m
  p : l.p = m.p
  sp : l.s = m.s
  own : s.cn ((n : Int), -1) = t.cn ((n : Int), -1)
  o : l.o.map (fx s n) = m.o.map (fx t n)
theorem Sim.sum {s t : IS} {n : Nat} {l m : IL} (h : Sim s t n l m) : sumI s n = sumI t n := by
  unfold sumI sumL
  rw [ordL_nat h.ls, ordL_nat h.lt, h.own, slq_fx, slq_fx, h.o]
theorem Sim.hit {s t : IS} {n : Nat} {l m : IL} (h : Sim s t n l m) : hitL s n = hitL t n := by
  rw [hitL_eq h.ls, hitL_eq h.lt, h.p, h.sum]
theorem dQ_exact (s : IS) (n : Nat) {o : List Int} (hd : o.Nodup) {x : Int} (hx : x ∈ o) : (dQ s n o).1 ((n : Int), x) = if ((get s.att x).getD tz).k = 0 then s.cn ((n : Int), x) else s.cn ((n : Int), x) + 1 := by
  have stay : ∀ (o : List Int) (q : (Int × Int → Int) × (Int → Int) × List Dv), x ∉ o → (o.foldl (dOne s.att n) q).1 ((n : Int), x) = q.1 ((n : Int), x) := fun o => by
    induction o with
    | nil => intro q _; rfl
    | cons a r ih =>
      intro q hq
      rw [List.foldl_cons, ih _ (fun h => hq (by simp [h]))]
      show (if _ then q.1 else _) _ = _
      split
      · rfl
      · exact upd_other (fun e => hq (by have e2 : x = a := congrArg Prod.snd e; rw [e2]; simp))
  have key : ∀ (o : List Int) (q : (Int × Int → Int) × (Int → Int) × List Dv), o.Nodup → x ∈ o → (o.foldl (dOne s.att n) q).1 ((n : Int), x) = if ((get s.att x).getD tz).k = 0 then q.1 ((n : Int), x) else q.1 ((n : Int), x) + 1 := fun o => by
    induction o with
    | nil => intro q _ h; cases h
    | cons a r ih =>
      intro q hd hx
      obtain ⟨h1, h2⟩ := List.nodup_cons.1 hd
      rw [List.foldl_cons]
      by_cases e : x = a
      · subst e
        rw [stay r _ h1]
        show (if _ then q.1 else _) _ = _
        split
        · rfl
        · exact upd_same _ _ _
      · rw [ih _ h2 ((List.mem_cons.1 hx).resolve_left e)]
        have : (dOne s.att n q a).1 ((n : Int), x) = q.1 ((n : Int), x) := by
          show (if _ then q.1 else _) _ = _
          split
          · rfl
          · exact upd_other (fun e2 => e (congrArg Prod.snd e2))
        rw [this]
  exact key o _ hd hx
def gx (p : Int × Bool) : Int × Bool := (if p.2 then p.1 else p.1 + 1, p.2)
theorem fx_hit {s : IS} (h : IOk s) {n : Nat} {l : IL} (hl : s.ls[n]? = some l) (hh : hitL s n = true) : l.o.map (fx (stV s) n) = (l.o.map (fx s n)).map gx := by
  have hn := (List.getElem?_eq_some_iff.1 hl).1
  obtain ⟨_, e2⟩ := dA_line hl s.ls.length hn
  rw [List.map_map]
  refine List.map_congr_left fun x hx => ?_
  unfold fx
  have h1 : (stV s).cn ((n : Int), x) = (dQ s n l.o).1 ((n : Int), x) := by
    have := e2 x
    rw [if_pos hh] at this
    exact this
  have h2 : (stV s).att = s.att := dA_att _
  rw [h1, h2, dQ_exact s n (h.dup n l hl) hx]
  show _ = gx _
  unfold gx
  by_cases e : ((get s.att x).getD tz).k = 0 <;> simp [e]
theorem Sim.deliver {s t : IS} {n : Nat} {l m : IL} (h : Sim s t n l m) (ks : IOk s) (kt : IOk t) : ∃ l' m', Sim (stV s) (stV t) n l' m' := by
  have hn := (List.getElem?_eq_some_iff.1 h.ls).1
  have hm := (List.getElem?_eq_some_iff.1 h.lt).1
  obtain ⟨a1, a2⟩ := dA_line h.ls s.ls.length hn
  obtain ⟨b1, b2⟩ := dA_line h.lt t.ls.length hm
  have oa := dA_own ks (n : Int) s.ls.length
  have ob := dA_own kt (n : Int) t.ls.length
  have hh := h.hit
  have hlen : l.o = [] ↔ m.o = [] := by
    have := congrArg List.length h.o
    simp at this
    constructor
    · intro e; rw [e] at this; exact List.length_eq_zero_iff.1 this.symm
    · intro e; rw [e] at this; exact List.length_eq_zero_iff.1 this
  cases hs : hitL s n
  · rw [hs] at hh
    rw [hs] at a1 a2
    rw [← hh] at b1 b2
    simp only [Bool.false_eq_true, if_false] at a1 a2 b1 b2
    refine ⟨l, m, a1, b1, h.p, h.sp, ?_, ?_⟩
    · show (dA s _).1.cn _ = (dA t _).1.cn _
      rw [oa, ob, h.own]
    · have e1 : l.o.map (fx (stV s) n) = l.o.map (fx s n) := List.map_congr_left fun x _ => by
        unfold fx
        rw [show (stV s).cn ((n : Int), x) = s.cn ((n : Int), x) from a2 x, show (stV s).att = s.att from dA_att _]
      have e2 : m.o.map (fx (stV t) n) = m.o.map (fx t n) := List.map_congr_left fun x _ => by
        unfold fx
        rw [show (stV t).cn ((n : Int), x) = t.cn ((n : Int), x) from b2 x, show (stV t).att = t.att from dA_att _]
      rw [e1, e2, h.o]
  · rw [hs] at hh
    rw [hs] at a1 a2
    rw [← hh] at b1 b2
    simp only [if_true] at a1 b1
    refine ⟨dlL l, dlL m, a1, b1, rfl, ?_, ?_, ?_⟩
    · unfold dlL
      by_cases e : l.o = []
      · simp [e, hlen.1 e, h.sp]
      · show (if l.o = [] then _ else l.s) = (if m.o = [] then _ else m.s)
        rw [if_neg e, if_neg (fun q => e (hlen.2 q)), h.sp]
    · show (dA s _).1.cn _ = (dA t _).1.cn _
      rw [oa, ob, h.own]
    · show l.o.map (fx (stV s) n) = m.o.map (fx (stV t) n)
      rw [fx_hit ks h.ls hs, fx_hit kt h.lt hh.symm, h.o]
theorem cn_new {s : IS} (h : IOk s) (n : Nat) : s.cn ((n : Int), ((lf s.att : Nat) : Int)) = 0 := by
  by_cases e : s.cn ((n : Int), ((lf s.att : Nat) : Int)) = 0
  · exact e
  · rcases h.cz n _ e with h1 | ⟨t, h1, _⟩
    · omega
    · rw [(lf_ok h).2.1] at h1; cases h1
theorem fx_att {s : IS} (h : IOk s) {n : Nat} {l : IL} (hl : s.ls[n]? = some l) {k : Nat} (lk : IL) (fi : Bool) (t : Tm) : ∀ x ∈ l.o, fx (attS s k lk fi t) n x = fx s n x := fun x hx => by
  unfold fx
  have : get (ins (lf s.att : Nat) t s.att) x = get s.att x := by
    rw [get_ins _ _ _ _ h.srt, if_neg]
    intro e
    obtain ⟨u, hu, _⟩ := (h.ord n l x hl).1 hx
    rw [← e, (lf_ok h).2.1] at hu; cases hu
  show (s.cn _, ((get (ins _ _ _) x).getD tz).k == 0) = _
  rw [this]
theorem fx_new {s : IS} (h : IOk s) (n : Nat) {k : Nat} (lk : IL) (fi : Bool) (t : Tm) : fx (attS s k lk fi t) n ((lf s.att : Nat) : Int) = (0, t.k == 0) := by
  unfold fx
  show (s.cn _, ((get (ins _ _ _) _).getD tz).k == 0) = _
  rw [cn_new h, get_ins _ _ _ _ h.srt, if_pos rfl]
  rfl
end Go.Proofs.Ytbnchmhhhildnaa
