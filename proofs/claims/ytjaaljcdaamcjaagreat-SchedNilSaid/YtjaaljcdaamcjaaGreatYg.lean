/- Plain: the queue's lists, and what put and cut make of them. -/
import Derived.Test.YtjaaljcdaamcjaaGreatYf
namespace Go.Proofs.YtjaaljcdaamcjaaGreat.Rd
set_option linter.unusedVariables false

/-- The rings, heads, bits and priorities are those of these lists. -/
structure RInv (q : QS) (ls : Nat → List Nat) : Prop where
  nodup : ∀ p, (ls p).Nodup
  mem : ∀ p t, t ∈ ls p → t < 256 ∧ p < 256 ∧ q.prio t = p
  bit : ∀ p, p < 256 → (q.filled (p / 64)).testBit (p % 64) = decide (ls p ≠ [])
  flt : ∀ j, q.filled j < 2 ^ 64
  head : ∀ p h r, ls p = h :: r → q.heads p = h
  ring : ∀ p, Ring q.after q.before (ls p)
def ins (ls : Nat → List Nat) (t p : Nat) (front : Bool) : Nat → List Nat := fun i => if i = p then (if front = true then t :: ls p else ls p ++ [t]) else ls i
def del (ls : Nat → List Nat) (t : Nat) : Nat → List Nat := fun i => (ls i).erase t
theorem ins_same (ls : Nat → List Nat) (t p : Nat) (front : Bool) : ins ls t p front p = if front = true then t :: ls p else ls p ++ [t] := by simp [ins]
theorem ins_other {ls : Nat → List Nat} {t p i : Nat} {front : Bool} (h : i ≠ p) : ins ls t p front i = ls i := by simp [ins, h]

/-- put at an empty list, and at one that is not. -/
def putA (q : QS) (t p : Nat) : QS := { q with prio := upd q.prio t p, after := upd q.after t t, before := upd q.before t t, filled := upd q.filled (p / 64) (q.filled (p / 64) ||| 2 ^ (p % 64)), heads := upd q.heads p t }
def putB (q : QS) (t p : Nat) (front : Bool) : QS := { q with prio := upd q.prio t p, after := upd (upd q.after (q.before (q.heads p)) t) t (q.heads p), before := upd (upd q.before t (q.before (q.heads p))) (q.heads p) t, heads := if front = true then upd q.heads p t else q.heads }
theorem RInv.putA {q : QS} {ls : Nat → List Nat} (hi : RInv q ls) {t p : Nat} (ht : t < 256) (hp : p < 256) (hn : ∀ i, t ∉ ls i) (he : ls p = []) (front : Bool) : RInv (putA q t p) (ins ls t p front) := by
  have hl : ins ls t p front p = [t] := by rw [ins_same, he]; cases front <;> rfl
  refine ⟨fun i => ?_, fun i x hx => ?_, fun i h256 => ?_, fun j => ?_, fun i h r hr => ?_, fun i => ?_⟩
  · by_cases e : i = p
    · subst e; rw [hl]; simp
    · rw [ins_other e]; exact hi.nodup i
  · by_cases e : i = p
    · subst e; rw [hl] at hx; obtain rfl := List.mem_singleton.1 hx; exact ⟨ht, hp, upd_same _ _ _⟩
    · rw [ins_other e] at hx
      have hxt : x ≠ t := fun e => hn i (e ▸ hx)
      obtain ⟨h1, h2, h3⟩ := hi.mem i x hx
      exact ⟨h1, h2, (upd_other hxt).trans h3⟩
  · show (upd q.filled (p / 64) _ (i / 64)).testBit (i % 64) = _
    by_cases e : i = p
    · subst e; rw [hl, upd_same, add_bit]; simp
    · rw [ins_other e, ← hi.bit i h256]
      by_cases ej : i / 64 = p / 64
      · rw [ej, upd_same, add_bit, decide_eq_false (by omega), Bool.or_false]
      · rw [upd_other ej]
  · show upd q.filled (p / 64) _ j < _
    by_cases ej : j = p / 64
    · subst ej; rw [upd_same]; exact add_lt _ _ (hi.flt _) (by omega)
    · rw [upd_other ej]; exact hi.flt j
  · show upd q.heads p t i = h
    by_cases e : i = p
    · subst e; rw [hl] at hr; rw [upd_same]; exact (List.cons.inj hr).1
    · rw [ins_other e] at hr; rw [upd_other e]; exact hi.head i h r hr
  · by_cases e : i = p
    · subst e; rw [hl]; exact Ring.one t
    · rw [ins_other e]
      exact (hi.ring i).congr (fun x hx => upd_other fun e => hn i (e ▸ hx)) (fun x hx => upd_other fun e => hn i (e ▸ hx))
theorem RInv.putB {q : QS} {ls : Nat → List Nat} (hi : RInv q ls) {t p : Nat} (ht : t < 256) (hp : p < 256) (hn : ∀ i, t ∉ ls i) (he : ls p ≠ []) (front : Bool) : RInv (putB q t p front) (ins ls t p front) := by
  obtain ⟨h, r, hr⟩ : ∃ h r, ls p = h :: r := by
    cases hl : ls p with
    | nil => exact absurd hl he
    | cons h r => exact ⟨h, r, rfl⟩
  have hh := hi.head p h r hr
  have hrg := hi.ring p
  rw [hr] at hrg
  have hnd := hi.nodup p
  rw [hr] at hnd
  have hz := hrg.before_mem
  have htp := hn p
  rw [hr] at htp
  have hlk := hrg.link hnd htp
  have hm : ∀ i, i ≠ p → ∀ x, x ∈ ls i → x ∉ ls p := fun i hne x hx hx2 => hne ((hi.mem i x hx).2.2.symm.trans (hi.mem p x hx2).2.2)
  refine ⟨fun i => ?_, fun i x hx => ?_, fun i h256 => ?_, hi.flt, fun i h' r' hr' => ?_, fun i => ?_⟩
  · by_cases e : i = p
    · subst e; rw [ins_same, hr]
      cases front
      · rw [if_neg (by simp), List.nodup_append]
        refine ⟨hnd, by simp, fun a ha b hb e => ?_⟩
        rw [List.mem_singleton.1 hb] at e
        exact htp (e ▸ ha)
      · rw [if_pos rfl]; exact List.nodup_cons.2 ⟨htp, hnd⟩
    · rw [ins_other e]; exact hi.nodup i
  · have other : ∀ i x, x ∈ ls i → x < 256 ∧ i < 256 ∧ upd q.prio t p x = i := fun i x hx => by
      have hxt : x ≠ t := fun e => hn i (e ▸ hx)
      obtain ⟨h1, h2, h3⟩ := hi.mem i x hx
      exact ⟨h1, h2, (upd_other hxt).trans h3⟩
    by_cases e : i = p
    · subst e
      rw [ins_same] at hx
      have : x = t ∨ x ∈ ls i := by
        cases front
        · rw [if_neg (by simp)] at hx; rcases List.mem_append.1 hx with hx | hx; exact .inr hx; exact .inl (List.mem_singleton.1 hx)
        · rw [if_pos rfl] at hx; exact List.mem_cons.1 hx
      rcases this with rfl | hx
      · exact ⟨ht, hp, upd_same _ _ _⟩
      · exact other _ _ hx
    · rw [ins_other e] at hx; exact other _ _ hx
  · show (q.filled (i / 64)).testBit (i % 64) = _
    rw [hi.bit i h256]
    by_cases e : i = p
    · subst e; rw [ins_same]; cases front <;> simp [hr]
    · rw [ins_other e]
  · show (if front = true then upd q.heads p t else q.heads) i = h'
    by_cases e : i = p
    · subst e; rw [ins_same, hr] at hr'
      cases front
      · rw [if_neg (by simp)] at hr' ⊢; rw [hh]; exact (List.cons.inj hr').1
      · rw [if_pos rfl] at hr' ⊢; rw [upd_same]; exact (List.cons.inj hr').1
    · rw [ins_other e] at hr'
      cases front
      · exact hi.head i h' r' hr'
      · show upd q.heads p t i = h'; rw [upd_other e]; exact hi.head i h' r' hr'
  · show Ring (upd (upd q.after (q.before (q.heads p)) t) t (q.heads p)) (upd (upd q.before t (q.before (q.heads p))) (q.heads p) t) _
    rw [hh]
    by_cases e : i = p
    · subst e; rw [ins_same, hr]
      cases front
      · rw [if_neg (by simp)]; exact hlk
      · rw [if_pos rfl]; exact hlk.rot
    · rw [ins_other e]
      refine (hi.ring i).congr (fun x hx => ?_) (fun x hx => ?_)
      · have h1 : x ≠ t := fun e => hn i (e ▸ hx)
        have h2 : x ≠ q.before h := fun e' => hm i e x hx (by rw [hr, e']; exact hz)
        rw [upd_other h1, upd_other h2]
      · have h1 : x ≠ t := fun e => hn i (e ▸ hx)
        have h2 : x ≠ h := fun e' => hm i e x hx (by rw [hr, e']; simp)
        rw [upd_other h2, upd_other h1]

/-- cut at a list of one thread, and at a longer one. -/
def cutA (q : QS) (p : Nat) : QS := { q with filled := upd q.filled (p / 64) (q.filled (p / 64) &&& (18446744073709551615 - 2 ^ (p % 64))) }
def cutB (q : QS) (t p : Nat) : QS := { q with heads := if q.heads p = t then upd q.heads p (q.after t) else q.heads, after := upd q.after (q.before t) (q.after t), before := upd q.before (q.after t) (q.before t) }
theorem erase_no {t : Nat} {l : List Nat} (h : t ∉ l) : l.erase t = l := List.erase_of_not_mem h
theorem RInv.others {q : QS} {ls : Nat → List Nat} (hi : RInv q ls) {t p : Nat} (hm : t ∈ ls p) {i : Nat} (h : i ≠ p) : t ∉ ls i := fun hx => h ((hi.mem i t hx).2.2.symm.trans (hi.mem p t hm).2.2)
theorem RInv.cutA {q : QS} {ls : Nat → List Nat} (hi : RInv q ls) {t p : Nat} (he : ls p = [t]) : RInv (cutA q p) (del ls t) := by
  have hm : t ∈ ls p := by rw [he]; simp
  have hl : del ls t p = [] := by simp [del, he]
  have hp := (hi.mem p t hm).2.1
  have ho : ∀ i, i ≠ p → del ls t i = ls i := fun i h => erase_no (hi.others hm h)
  refine ⟨fun i => (hi.nodup i).erase t, fun i x hx => hi.mem i x (List.mem_of_mem_erase hx), fun i h256 => ?_, fun j => ?_, fun i h r hr => ?_, fun i => ?_⟩
  · show (upd q.filled (p / 64) _ (i / 64)).testBit (i % 64) = _
    by_cases e : i = p
    · subst e; rw [hl, upd_same, sub_bit _ _ _ (by omega) (by omega)]; simp
    · rw [ho i e, ← hi.bit i h256]
      by_cases ej : i / 64 = p / 64
      · rw [ej, upd_same, sub_bit _ _ _ (by omega) (by omega), decide_eq_false (by omega), Bool.not_false, Bool.and_true]
      · rw [upd_other ej]
  · show upd q.filled (p / 64) _ j < _
    by_cases ej : j = p / 64
    · subst ej; rw [upd_same]; exact sub_lt _ _ (hi.flt _)
    · rw [upd_other ej]; exact hi.flt j
  · by_cases e : i = p
    · subst e; rw [hl] at hr; cases hr
    · rw [ho i e] at hr; exact hi.head i h r hr
  · by_cases e : i = p
    · subst e; rw [hl]; trivial
    · rw [ho i e]; exact hi.ring i
theorem RInv.cutB {q : QS} {ls : Nat → List Nat} (hi : RInv q ls) {t p : Nat} (hm : t ∈ ls p) (he : ls p ≠ [t]) : q.after t ≠ t ∧ RInv (cutB q t p) (del ls t) := by
  obtain ⟨l1, l2, hl⟩ := List.append_of_mem hm
  have hnd := hi.nodup p
  rw [hl] at hnd
  have hrg := hi.ring p
  rw [hl] at hrg
  have hrot := hrg.rot
  have hnd2 : (t :: (l2 ++ l1)).Nodup := by
    have := (List.perm_append_comm (l₁ := l1) (l₂ := t :: l2)).nodup_iff.1 hnd
    exact this
  have ht1 : t ∉ l1 := fun h => (List.nodup_cons.1 hnd2).1 (by simp [h])
  have hd : del ls t p = l1 ++ l2 := by
    show (ls p).erase t = _
    rw [hl, List.erase_append_right _ ht1, List.erase_cons_head]
  obtain ⟨z, m, hz⟩ : ∃ z m, l2 ++ l1 = z :: m := by
    cases h : l2 ++ l1 with
    | nil => obtain ⟨e1, e2⟩ := List.append_eq_nil_iff.1 h; subst e1; subst e2; exact absurd hl he
    | cons z m => exact ⟨z, m, rfl⟩
  have hrot' : Ring q.after q.before (t :: (l2 ++ l1)) := hrot
  rw [hz] at hrot' hnd2
  obtain ⟨ha, hun⟩ := hrot'.unlink hnd2
  have hzt : z ≠ t := fun e => by subst e; simp at hnd2
  have hun2 : Ring (upd q.after (q.before t) z) (upd q.before z (q.before t)) (l1 ++ l2) := by
    rw [← hz] at hun; exact hun.rot
  have hzp : z ∈ ls p := by
    have : z ∈ l2 ++ l1 := by rw [hz]; simp
    rw [hl]
    rcases List.mem_append.1 this with h | h <;> simp [h]
  have hyp : q.before t ∈ ls p := by
    have := hrot'.before_mem
    rw [← hz] at this
    rw [hl]
    rcases List.mem_cons.1 this with h | h
    · rw [h]; simp
    · rcases List.mem_append.1 h with h | h <;> simp [h]
  have ho : ∀ i, i ≠ p → del ls t i = ls i := fun i h => erase_no (hi.others hm h)
  refine ⟨by rw [ha]; exact hzt, fun i => (hi.nodup i).erase t, fun i x hx => hi.mem i x (List.mem_of_mem_erase hx), fun i h256 => ?_, hi.flt, fun i h r hr => ?_, fun i => ?_⟩
  · show (q.filled (i / 64)).testBit (i % 64) = _
    rw [hi.bit i h256]
    by_cases e : i = p
    · subst e; rw [hd]
      have h1 : ls i ≠ [] := by rw [hl]; simp
      have h2 : l1 ++ l2 ≠ [] := fun e => by obtain ⟨e1, e2⟩ := List.append_eq_nil_iff.1 e; subst e1; subst e2; cases hz
      rw [decide_eq_true h1, decide_eq_true h2]
    · rw [ho i e]
  · show (if q.heads p = t then upd q.heads p (q.after t) else q.heads) i = h
    by_cases e : i = p
    · subst e
      rw [hd] at hr
      cases l1 with
      | nil =>
        have hq : q.heads i = t := hi.head i t l2 hl
        rw [if_pos hq, upd_same, ha]
        rw [List.append_nil] at hz
        rw [List.nil_append, hz] at hr
        exact (List.cons.inj hr).1
      | cons a l1 =>
        have hq : q.heads i = a := hi.head i a _ hl
        have hat : a ≠ t := fun e => ht1 (by simp [e])
        rw [if_neg (by rw [hq]; exact hat), hq]
        exact (List.cons.inj hr).1
    · rw [ho i e] at hr
      have := hi.head i h r hr
      split
      · rw [upd_other e]; exact this
      · exact this
  · show Ring (upd q.after (q.before t) (q.after t)) (upd q.before (q.after t) (q.before t)) _
    rw [ha]
    by_cases e : i = p
    · subst e; rw [hd]; exact hun2
    · rw [ho i e]
      refine (hi.ring i).congr (fun x hx => upd_other fun e' => ?_) (fun x hx => upd_other fun e' => ?_)
      · exact hi.others hyp e (e' ▸ hx)
      · exact hi.others hzp e (e' ▸ hx)
/-- Rotate. -/
def rotQ (q : QS) (p : Nat) : QS := { q with heads := upd q.heads p (q.after (q.heads p)) }
def rotL (ls : Nat → List Nat) (p : Nat) : Nat → List Nat := fun i => if i = p then (match ls p with | [] => [] | h :: r => r ++ [h]) else ls i
theorem RInv.rot {q : QS} {ls : Nat → List Nat} (hi : RInv q ls) {p : Nat} (he : ls p ≠ []) : RInv (rotQ q p) (rotL ls p) := by
  obtain ⟨h, r, hr⟩ : ∃ h r, ls p = h :: r := by
    cases hl : ls p with
    | nil => exact absurd hl he
    | cons h r => exact ⟨h, r, rfl⟩
  have hh := hi.head p h r hr
  have hp : rotL ls p p = r ++ [h] := by simp [rotL, hr]
  have ho : ∀ i, i ≠ p → rotL ls p i = ls i := fun i e => by simp [rotL, e]
  have hperm : (r ++ [h]).Perm (h :: r) := List.perm_append_comm (l₁ := r) (l₂ := [h])
  refine ⟨fun i => ?_, fun i x hx => ?_, fun i h256 => ?_, hi.flt, fun i h' r' hr' => ?_, fun i => ?_⟩
  · by_cases e : i = p
    · subst e; rw [hp]; exact hperm.nodup_iff.2 (hr ▸ hi.nodup i)
    · rw [ho i e]; exact hi.nodup i
  · by_cases e : i = p
    · subst e; rw [hp] at hx; exact hi.mem i x (hr ▸ hperm.mem_iff.1 hx)
    · rw [ho i e] at hx; exact hi.mem i x hx
  · show (q.filled (i / 64)).testBit (i % 64) = _
    rw [hi.bit i h256]
    by_cases e : i = p
    · subst e; rw [hp, hr]; simp
    · rw [ho i e]
  · show upd q.heads p (q.after (q.heads p)) i = h'
    by_cases e : i = p
    · subst e
      rw [upd_same, hh]
      have hrg := hi.ring i
      rw [hr] at hrg
      rw [hp] at hr'
      cases r with
      | nil => obtain ⟨e1, _⟩ := (hrg : Lk q.after q.before h h); rw [e1]; exact (List.cons.inj hr').1
      | cons z r => obtain ⟨⟨e1, _⟩, _⟩ := (hrg : Lk q.after q.before h z ∧ _); rw [e1]; exact (List.cons.inj hr').1
    · rw [ho i e] at hr'; rw [upd_other e]; exact hi.head i h' r' hr'
  · by_cases e : i = p
    · subst e
      rw [hp]
      have hrg := hi.ring i
      rw [hr] at hrg
      exact Ring.rot (l := [h]) (m := r) hrg
    · rw [ho i e]; exact hi.ring i
end Go.Proofs.YtjaaljcdaamcjaaGreat.Rd
