/- Interrupts, plain: the attachments: a list of numbers and attachments, by number; how it reads as a map. -/
import Derived.Test.YtbnchmhhhildnaaProg
import Derived.Maps.OwnOps
import Derived.Maps.OwnSet
import Derived.Maps.Ext
import Derived.Maps.RangeWalk
namespace Go.Proofs.Ytbnchmhhhildnaa
open Go.RowKit Go.Maps
set_option linter.unusedVariables false

/-- An attachment: line, thread; kind, conn, priority, code, value of the event. -/
structure Tm where
  l : Int
  t : Int
  k : Int
  c : Int
  p : Int
  d : Int
  v : Int
  deriving DecidableEq

def tz : Tm := ⟨0, 0, 0, 0, 0, 0, 0⟩
def tmE (x : Tm) : Value := .agg #[.int .i64 x.l, .int .i64 x.t, .int .i64 x.k, .int .i64 x.c, .int .i64 x.p, .int .i64 x.d, .int .i64 x.v]
def li (x : Int) : DataW Unit := .lit (.int .i64 x)
def tmD (x : Tm) : DataW Unit := .agg [li x.l, li x.t, li x.k, li x.c, li x.p, li x.d, li x.v]
theorem tmE_inj {x y : Tm} (h : tmE x = tmE y) : x = y := by
  obtain ⟨a1, a2, a3, a4, a5, a6, a7⟩ := x
  obtain ⟨b1, b2, b3, b4, b5, b6, b7⟩ := y
  simp [tmE] at h
  obtain ⟨rfl, rfl, rfl, rfl, rfl, rfl, rfl⟩ := h
  rfl
open Classical in
/-- How an attachment in the map reads. -/
noncomputable def tmR (v : Value) : Option (DataW Unit × List MemPlace) := if h : ∃ x, v = tmE x then some (tmD h.choose, []) else none
theorem tmR_mk (x : Tm) : tmR (tmE x) = some (tmD x, []) := by
  have h : ∃ y, tmE x = tmE y := ⟨x, rfl⟩
  unfold tmR
  rw [dif_pos h]
  rw [← tmE_inj h.choose_spec]
theorem tmR_inv {v : Value} {y : DataW Unit × List MemPlace} (h : tmR v = some y) : ∃ x : Tm, v = tmE x ∧ y = (tmD x, []) := by
  unfold tmR at h
  split at h
  · rename_i hx
    cases h; exact ⟨_, hx.choose_spec, rfl⟩
  · cases h
theorem tmD_inj {x y : Tm} (h : tmD x = tmD y) : x = y := by
  obtain ⟨a1, a2, a3, a4, a5, a6, a7⟩ := x
  obtain ⟨b1, b2, b3, b4, b5, b6, b7⟩ := y
  simp [tmD, li] at h
  obtain ⟨rfl, rfl, rfl, rfl, rfl, rfl, rfl⟩ := h
  rfl

abbrev TS := List (Int × Tm)
def kl (x : Int) : Lit := .int .i64 x
def ent (p : Int × Tm) : Lit × DataW Unit := (kl p.1, tmD p.2)
def Dof (l : TS) : DataW Unit := .map (l.map ent)
def SortedT (l : TS) : Prop := l.Pairwise (fun p q => p.1 < q.1)
def get (l : TS) (x : Int) : Option Tm := (l.find? (fun p => p.1 == x)).map (·.2)
def ins (x : Int) (t : Tm) : TS → TS
  | [] => [(x, t)]
  | p :: r => if x < p.1 then (x, t) :: p :: r else if x = p.1 then (x, t) :: r else p :: ins x t r
def del (x : Int) (l : TS) : TS := l.filter (fun p => !(p.1 == x))

theorem same_kl (x y : Int) : (kl x).sameKey (kl y) = (x == y) := by
  by_cases h : x = y <;> simp [kl, Lit.sameKey, h]
theorem before_kl (x y : Int) : (kl x).before (kl y) = decide (x < y) := rfl

theorem get_nil (x : Int) : get [] x = none := rfl
theorem get_cons (p : Int × Tm) (l : TS) (x : Int) : get (p :: l) x = if p.1 = x then some p.2 else get l x := by
  unfold get
  rw [List.find?_cons]
  by_cases h : p.1 = x
  · simp [h]
  · rw [beq_eq_false_iff_ne.2 h]; simp [h]

theorem get_none_of_lt {l : TS} {x : Int} (h : ∀ p ∈ l, x < p.1) : get l x = none := by
  induction l with
  | nil => rfl
  | cons p r ih =>
    rw [get_cons, if_neg (by have := h p (by simp); omega), ih (fun q hq => h q (by simp [hq]))]

theorem get_mem {l : TS} {x : Int} {t : Tm} (h : get l x = some t) : (x, t) ∈ l := by
  induction l with
  | nil => cases h
  | cons p r ih =>
    rw [get_cons] at h
    by_cases hp : p.1 = x
    · rw [if_pos hp] at h; cases h; subst hp; simp
    · rw [if_neg hp] at h; simp [ih h]

theorem get_of_mem {l : TS} (hs : SortedT l) {x : Int} {t : Tm} (h : (x, t) ∈ l) : get l x = some t := by
  induction l with
  | nil => cases h
  | cons p r ih =>
    obtain ⟨h1, h2⟩ := List.pairwise_cons.1 hs
    rw [get_cons]
    rcases List.mem_cons.1 h with e | hm
    · subst e; simp
    · have := h1 _ hm
      rw [if_neg (by simp at this; omega), ih h2 hm]

theorem dhas (l : TS) (x : Int) : Maps.has (Dof l) (kl x) = (get l x).isSome := by
  show (l.map ent).any (fun p => p.1.sameKey (kl x)) = _
  induction l with
  | nil => rfl
  | cons p r ih =>
    rw [List.map_cons, List.any_cons, get_cons, ih]
    show ((kl p.1).sameKey (kl x) || _) = _
    rw [same_kl]
    by_cases h : p.1 = x <;> simp [h]

theorem find_ent (l : TS) (x : Int) : (l.map ent).find? (fun p => p.1.sameKey (kl x)) = (get l x).map (fun t => (kl x, tmD t)) := by
  induction l with
  | nil => rfl
  | cons p r ih =>
    rw [List.map_cons, List.find?_cons, get_cons, ih]
    show (match (kl p.1).sameKey (kl x) with | true => some (ent p) | false => _) = _
    rw [same_kl]
    by_cases h : p.1 = x
    · subst h; simp [ent]
    · rw [beq_eq_false_iff_ne.2 h]; simp [h]
theorem datk (l : TS) (x : Int) (z : Tm) : (Dof l).atKey (kl x) (tmD z) = tmD ((get l x).getD z) := by
  unfold DataW.atKey Dof
  simp only [find_ent]
  cases get l x <;> rfl

theorem dsize (l : TS) : Maps.size (Dof l) = l.length := by
  show (l.map ent).length = _
  simp

theorem ddel (x : Int) (l : TS) : (Dof l).del (kl x) = Dof (del x l) := by
  show DataW.map ((l.map ent).filter fun p => !p.1.sameKey (kl x)) = DataW.map ((del x l).map ent)
  rw [del, List.filter_map]
  congr 2
  refine List.filter_congr fun p _ => ?_
  show (!(kl p.1).sameKey (kl x)) = _
  rw [same_kl]

theorem dinsert (x : Int) (t : Tm) : ∀ (l : TS), SortedT l → (∀ p ∈ l, p.1 ≠ x) → DataW.insert (ent (x, t)) (l.map ent) = (ins x t l).map ent
  | [], _, _ => rfl
  | p :: r, hs, hn => by
    obtain ⟨h1, h2⟩ := List.pairwise_cons.1 hs
    have hp := hn p (by simp)
    show (if (kl x).before (kl p.1) then _ else _) = _
    rw [before_kl, ins]
    by_cases h : x < p.1
    · simp [h, ent]
    · simp only [h, decide_false, Bool.false_eq_true, if_false]
      rw [if_neg (Ne.symm hp), List.map_cons, dinsert x t r h2 (fun q hq => hn q (by simp [hq]))]

theorem ins_del (x : Int) (t : Tm) : ∀ (l : TS), SortedT l → ins x t (del x l) = ins x t l
  | [], _ => rfl
  | p :: r, hs => by
    obtain ⟨h1, h2⟩ := List.pairwise_cons.1 hs
    have ih := ins_del x t r h2
    by_cases h : p.1 = x
    · have hd : del x (p :: r) = r := by
        unfold del
        rw [List.filter_cons, if_neg (by simp [h])]
        refine List.filter_eq_self.2 fun q hq => ?_
        have := h1 q hq
        have : q.1 ≠ x := by omega
        simp [this]
      rw [hd, ins, if_neg (by omega), if_pos h.symm]
      cases r with
      | nil => rfl
      | cons q r' =>
        have := h1 q (by simp)
        rw [ins, if_pos (by omega)]
    · have hd : del x (p :: r) = p :: del x r := by
        unfold del
        rw [List.filter_cons, if_pos (by simp [h])]
      rw [hd, ins, ins, ih]
      by_cases hx : x < p.1
      · have he : del x r = r := by
          unfold del
          refine List.filter_eq_self.2 fun q hq => ?_
          have := h1 q hq
          have : q.1 ≠ x := by omega
          simp [this]
        rw [if_pos hx, if_pos hx, he]
      · rw [if_neg hx, if_neg hx, if_neg (Ne.symm h), if_neg (Ne.symm h)]

theorem sorted_del {l : TS} (hs : SortedT l) (x : Int) : SortedT (del x l) := hs.filter _
theorem mem_ins {x : Int} {t : Tm} {l : TS} {q : Int × Tm} (h : q ∈ ins x t l) : q = (x, t) ∨ q ∈ l := by
  induction l with
  | nil => simp [ins] at h; exact .inl h
  | cons p r ih =>
    unfold ins at h
    split at h
    · simp at h; rcases h with h | h | h
      · exact .inl h
      · subst h; right; simp
      · right; simp [h]
    · split at h
      · simp at h; rcases h with h | h
        · exact .inl h
        · right; simp [h]
      · simp at h; rcases h with h | h
        · subst h; right; simp
        · rcases ih h with h | h
          · exact .inl h
          · right; simp [h]
theorem sorted_ins {x : Int} {t : Tm} : ∀ {l : TS}, SortedT l → SortedT (ins x t l)
  | [], _ => by simp [ins, SortedT]
  | p :: r, hs => by
    obtain ⟨h1, h2⟩ := List.pairwise_cons.1 hs
    unfold ins
    split
    · rename_i hx
      refine List.pairwise_cons.2 ⟨fun q hq => ?_, hs⟩
      rcases List.mem_cons.1 hq with rfl | hq
      · exact hx
      · have := h1 q hq; simp; omega
    · split
      · rename_i hx hx'
        subst hx'
        exact List.pairwise_cons.2 ⟨fun q hq => h1 q hq, h2⟩
      · rename_i hx hx'
        refine List.pairwise_cons.2 ⟨fun q hq => ?_, sorted_ins h2⟩
        rcases mem_ins hq with rfl | hq
        · show p.1 < x; omega
        · exact h1 q hq

theorem dput (x : Int) (t : Tm) {l : TS} (hs : SortedT l) : (Dof l).put (kl x) (tmD t) = Dof (ins x t l) := by
  show DataW.map (DataW.insert (ent (x, t)) ((l.map ent).filter fun p => !p.1.sameKey (kl x))) = _
  have h : DataW.map ((l.map ent).filter fun p => !p.1.sameKey (kl x)) = Dof (del x l) := ddel x l
  unfold Dof at h
  rw [DataW.map.inj h, dinsert x t _ (sorted_del hs x) (fun p hp => by simp [del] at hp; exact hp.2), ins_del x t l hs]
  rfl

theorem get_ins (x : Int) (t : Tm) (y : Int) : ∀ (l : TS), SortedT l → get (ins x t l) y = if x = y then some t else get l y
  | [], _ => by rw [ins, get_cons]
  | p :: r, hs => by
    obtain ⟨h1, h2⟩ := List.pairwise_cons.1 hs
    unfold ins
    split
    · rw [get_cons]
    · split
      · rename_i hx'
        rw [get_cons, get_cons]
        by_cases e : x = y
        · simp [e]
        · simp [e]; intro e2; omega
      · rw [get_cons, get_cons, get_ins x t y r h2]
        by_cases e : x = y
        · subst e; simp; intro e2; omega
        · simp [e]

theorem get_del (x y : Int) (l : TS) : get (del x l) y = if x = y then none else get l y := by
  induction l with
  | nil => simp [del, get]
  | cons p r ih =>
    unfold del at ih ⊢
    rw [List.filter_cons]
    by_cases h : p.1 = x
    · rw [if_neg (by simp [h]), ih, get_cons]
      by_cases e : x = y
      · simp [e]
      · simp [e, h]
    · rw [if_pos (by simp [h]), get_cons, ih, get_cons]
      by_cases e : x = y
      · subst e; simp [h]
      · simp [e]

theorem len_ins_new {x : Int} {t : Tm} : ∀ {l : TS}, get l x = none → (ins x t l).length = l.length + 1
  | [], _ => rfl
  | p :: r, h => by
    rw [get_cons] at h
    by_cases hp : p.1 = x
    · rw [if_pos hp] at h; cases h
    · rw [if_neg hp] at h
      unfold ins
      split
      · rfl
      · rw [if_neg (Ne.symm hp)]; simp [len_ins_new h]

/-- A list by number is what it holds. -/
theorem ts_ext : ∀ {l m : TS}, SortedT l → SortedT m → (∀ x, get l x = get m x) → l = m
  | [], [], _, _, _ => rfl
  | [], q :: s, _, _, h => by have := h q.1; rw [get_cons, if_pos rfl] at this; cases this
  | p :: r, [], _, _, h => by have := h p.1; rw [get_cons, if_pos rfl] at this; cases this
  | p :: r, q :: s, hl, hm, h => by
    obtain ⟨h1, h2⟩ := List.pairwise_cons.1 hl
    obtain ⟨k1, k2⟩ := List.pairwise_cons.1 hm
    have e1 : p.1 = q.1 := by
      have a := h p.1
      have b := h q.1
      rw [get_cons, get_cons, if_pos rfl] at a
      rw [get_cons, get_cons] at b
      by_cases e : p.1 = q.1
      · exact e
      · rw [if_neg (Ne.symm e)] at a
        rw [if_neg e, if_pos rfl] at b
        have a' := k1 _ (get_mem a.symm)
        have b' := h1 _ (get_mem b)
        simp at a' b'; omega
    have e2 : p.2 = q.2 := by
      have a := h p.1
      rw [get_cons, get_cons, if_pos rfl, if_pos e1.symm] at a
      exact Option.some.inj a
    have e3 : r = s := ts_ext h2 k2 fun x => by
      by_cases hx : x = p.1
      · subst hx
        rw [get_none_of_lt h1, get_none_of_lt (fun z hz => by rw [e1]; exact k1 z hz)]
      · have a := h x
        rwa [get_cons, get_cons, if_neg (Ne.symm hx), if_neg (by rw [← e1]; exact Ne.symm hx)] at a
    rw [show p = q from Prod.ext e1 e2, e3]
end Go.Proofs.Ytbnchmhhhildnaa
