/- ReadyPlays, plain: the reference's list is the order of the lists, with priorities and masks. -/
import Derived.Test.YtbjpaemldnoinaaQj
import Derived.Test.YtbjpaemldnoinaaQh
namespace Go.Proofs.Ytbjpaemldnoinaa
open Go.RowKit
set_option linter.unusedVariables false

structure PI (ls : Nat → List Nat) (mk : Nat → Nat) : Prop where
  mem : ∀ p t, t ∈ ls p → t < 256 ∧ p < 256
  uniq : ∀ p i t, t ∈ ls p → t ∈ ls i → i = p
  nodup : ∀ p, (ls p).Nodup
  mask0 : ∀ t, t < 256 → (mk t ≠ 0 ↔ ∃ p, t ∈ ls p)
  maskl : ∀ t, mk t < 256
theorem QP.pi {B : Nat} {ls : Nat → List Nat} {mk : Nat → Nat} {W : World} (h : QP B ls mk W) : PI ls mk := by
  obtain ⟨q, _, h2, rfl⟩ := h
  exact ⟨fun p t ht => ⟨(h2.r.mem p t ht).1, (h2.r.mem p t ht).2.1⟩, fun p i t h1 h3 => h2.only h1 i h3, h2.r.nodup, h2.mask0, h2.maskl⟩
def mkE (mk : Nat → Nat) (p t : Nat) : EnR := ⟨t, p, mk t⟩
def ents (mk : Nat → Nat) (ls : Nat → List Nat) : Nat → List EnR
  | 0 => []
  | n + 1 => (ls n).map (mkE mk n) ++ ents mk ls n
theorem ents_t (mk : Nat → Nat) (ls : Nat → List Nat) : ∀ n, (ents mk ls n).map (·.t) = (orderN n ls).map fun (t : Nat) => (t : Int)
  | 0 => rfl
  | n + 1 => by rw [ents, orderN, List.map_append, List.map_append, ents_t mk ls n, List.map_map]; rfl
theorem ents_len (mk : Nat → Nat) (ls : Nat → List Nat) (n : Nat) : (ents mk ls n).length = (orderN n ls).length := by
  have := congrArg List.length (ents_t mk ls n)
  simpa using this
theorem ents_mem {mk : Nat → Nat} {ls : Nat → List Nat} {x : EnR} : ∀ {n}, x ∈ ents mk ls n ↔ ∃ p t, p < n ∧ t ∈ ls p ∧ x = mkE mk p t
  | 0 => by simp [ents]
  | n + 1 => by
    rw [ents, List.mem_append, ents_mem, List.mem_map]
    constructor
    · rintro (⟨t, h, e⟩ | ⟨p, t, h1, h2, h3⟩)
      · exact ⟨n, t, by omega, h, e.symm⟩
      · exact ⟨p, t, by omega, h2, h3⟩
    · rintro ⟨p, t, h1, h2, h3⟩
      by_cases e : p = n
      · subst e; exact .inl ⟨t, h2, h3.symm⟩
      · exact .inr ⟨p, t, by omega, h2, h3⟩
theorem PI.ordN {ls : Nat → List Nat} {mk : Nat → Nat} (h : PI ls mk) : ∀ n, (orderN n ls).Nodup
  | 0 => by simp [orderN]
  | n + 1 => by
    rw [orderN, List.nodup_append]
    refine ⟨h.nodup n, h.ordN n, fun a ha b hb e => ?_⟩
    subst e
    obtain ⟨p, hp, hm⟩ := (order_mem n).1 hb
    have := h.uniq p n a hm ha
    omega
theorem nodup_cast {l : List Nat} (h : l.Nodup) : (l.map fun (t : Nat) => (t : Int)).Nodup := by
  rw [List.nodup_iff_pairwise_ne] at h ⊢
  rw [List.pairwise_map]
  exact h.imp fun {a b} hab e => hab (by omega)
theorem PI.nodT {ls : Nat → List Nat} {mk : Nat → Nat} (h : PI ls mk) (n : Nat) : ((ents mk ls n).map (·.t)).Nodup := by
  rw [ents_t]; exact nodup_cast (h.ordN n)
theorem PI.len {ls : Nat → List Nat} {mk : Nat → Nat} (h : PI ls mk) : (ents mk ls 256).length ≤ 256 := by
  rw [ents_len]
  exact nodup_len 256 _ (h.ordN 256) fun x hx => by obtain ⟨p, _, hm⟩ := (order_mem 256).1 hx; exact (h.mem p x hm).1
theorem PI.msk {ls : Nat → List Nat} {mk : Nat → Nat} (h : PI ls mk) : ∀ x ∈ ents mk ls 256, 0 ≤ x.m ∧ x.m < 256 := fun x hx => by
  obtain ⟨p, t, _, _, rfl⟩ := ents_mem.1 hx
  have := h.maskl t
  exact ⟨by show (0 : Int) ≤ (mk t : Int); omega, by show (mk t : Int) < 256; omega⟩

/-! index and find -/
theorem idxE_none {t : Int} : ∀ {l : List EnR} {k : Nat}, (∀ x ∈ l, x.t ≠ t) → idxE t l k = -1
  | [], k, _ => rfl
  | x :: r, k, h => by rw [idxE, if_neg (h x (by simp)), idxE_none fun y hy => h y (by simp [hy])]
theorem idxE_some {t : Int} : ∀ {l : List EnR} {k : Nat} {x : EnR}, x ∈ l → x.t = t → 0 ≤ idxE t l k
  | y :: r, k, x, hx, e => by
    rw [idxE]
    split
    · omega
    · rename_i hne
      rcases List.mem_cons.1 hx with h | h
      · exact absurd (h ▸ e) hne
      · exact idxE_some h e
theorem PI.at_ {ls : Nat → List Nat} {mk : Nat → Nat} (h : PI ls mk) {t p : Nat} (hm : t ∈ ls p) : ∃ i, idxE t (ents mk ls 256) 0 = ((i : Nat) : Int) ∧ (ents mk ls 256)[i]? = some (mkE mk p t) := by
  have hx : mkE mk p t ∈ ents mk ls 256 := ents_mem.2 ⟨p, t, (h.mem p t hm).2, hm, rfl⟩
  obtain ⟨i, x, h1, h2, h3⟩ := idxE_at (k := 0) (idxE_some hx (rfl : (mkE mk p t).t = (t : Int)) (k := 0))
  refine ⟨i, by rw [Nat.zero_add] at h1; exact h1, ?_⟩
  obtain ⟨p', t', _, hm', rfl⟩ := ents_mem.1 (List.mem_of_getElem? h2)
  have ht : t' = t := by have : (t' : Int) = t := h3; omega
  subst ht
  rw [h2, h.uniq p p' t' hm hm']
theorem PI.no {ls : Nat → List Nat} {mk : Nat → Nat} (h : PI ls mk) {t : Int} (h0 : 0 ≤ t) (h1 : t < 256) (hm : mk t.toNat = 0) : idxE t (ents mk ls 256) 0 = -1 :=
  idxE_none fun x hx e => by
    obtain ⟨p, s, _, hs, rfl⟩ := ents_mem.1 hx
    have hst : s = t.toNat := by have : (s : Int) = t := e; omega
    subst hst
    exact (h.mask0 _ (by omega)).2 ⟨p, hs⟩ hm
theorem PI.yes {ls : Nat → List Nat} {mk : Nat → Nat} (h : PI ls mk) {t : Nat} (ht : t < 256) (hm : mk t ≠ 0) : ∃ p, p < 256 ∧ t ∈ ls p := by
  obtain ⟨p, hp⟩ := (h.mask0 t ht).1 hm
  exact ⟨p, (h.mem p t hp).2, hp⟩
theorem fnd_bad {t : Int} {l : List EnR} (h : isThr t = false) : fndE t l = (0, 34) := by rw [fndE, if_neg (by rw [h]; simp)]
theorem PI.fnd_no {ls : Nat → List Nat} {mk : Nat → Nat} (h : PI ls mk) {t : Int} (ht : isThr t = true) (hm : mk t.toNat = 0) : fndE t (ents mk ls 256) = (0, 22) := by
  have h1 := (isThr_iff t).1 ht
  rw [fndE, if_pos ht, h.no h1.1 h1.2 hm, if_pos (by decide)]
theorem PI.fnd_yes {ls : Nat → List Nat} {mk : Nat → Nat} (h : PI ls mk) {t p : Nat} (hm : t ∈ ls p) : ∃ i : Nat, fndE t (ents mk ls 256) = ((i : Int), 0) ∧ (ents mk ls 256)[i]? = some (mkE mk p t) := by
  obtain ⟨i, h1, h2⟩ := h.at_ hm
  have ht := (h.mem p t hm).1
  refine ⟨i, ?_, h2⟩
  rw [fndE, if_pos ((isThr_iff _).2 ⟨by omega, by omega⟩), h1, if_neg (by omega)]

/-! delete -/
theorem erase_filter : ∀ {l : List EnR} {i : Nat} {x : EnR}, (l.map (·.t)).Nodup → l[i]? = some x → l.eraseIdx i = l.filter fun y => decide (y.t ≠ x.t)
  | [], i, x, _, h => by simp at h
  | y :: r, 0, x, hn, h => by
    simp at h
    subst h
    rw [List.map_cons, List.nodup_cons] at hn
    rw [List.eraseIdx_cons_zero, List.filter_cons_of_neg (by simp)]
    exact (List.filter_eq_self.2 fun z hz => by
      simp only [decide_eq_true_eq]
      exact fun e => hn.1 (by rw [← e]; exact List.mem_map.2 ⟨z, hz, rfl⟩)).symm
  | y :: r, i + 1, x, hn, h => by
    rw [List.map_cons, List.nodup_cons] at hn
    have h' : r[i]? = some x := by simpa using h
    have hne : y.t ≠ x.t := fun e => hn.1 (by rw [e]; exact List.mem_map.2 ⟨x, List.mem_of_getElem? h', rfl⟩)
    rw [List.eraseIdx_cons_succ, List.filter_cons_of_pos (by simpa using hne), erase_filter hn.2 h']
theorem ents_del {ls : Nat → List Nat} {mk mk' : Nat → Nat} {t : Nat} (hn : ∀ p, (ls p).Nodup) (hk : ∀ y, y ≠ t → mk' y = mk y) : ∀ n, (ents mk ls n).filter (fun y => decide (y.t ≠ (t : Int))) = ents mk' (del ls t) n
  | 0 => rfl
  | n + 1 => by
    rw [ents, ents, List.filter_append, ents_del hn hk n]
    congr 1
    show _ = ((ls n).erase t).map _
    rw [(hn n).erase_eq_filter, List.filter_map]
    rw [show ((fun y : EnR => decide (y.t ≠ (t : Int))) ∘ mkE mk n) = fun s => s != t from by
      funext s
      show decide ((s : Int) ≠ t) = (s != t)
      by_cases e : s = t
      · subst e; simp
      · have : (s : Int) ≠ t := by omega
        simp [e, this]]
    refine List.map_congr_left fun s hs => ?_
    have : s ≠ t := by have := (List.mem_filter.1 hs).2; simpa using this
    rw [mkE, mkE, hk s this]
theorem PI.del {ls : Nat → List Nat} {mk mk' : Nat → Nat} (h : PI ls mk) {t p i : Nat} (hi : (ents mk ls 256)[i]? = some (mkE mk p t)) (hk : ∀ y, y ≠ t → mk' y = mk y) : (ents mk ls 256).eraseIdx i = ents mk' (Proofs.Ytbjpaemldnoinaa.del ls t) 256 := by
  rw [erase_filter (h.nodT 256) hi]
  exact ents_del h.nodup hk 256

/-! set the mask -/
theorem set_map : ∀ {l : List EnR} {i : Nat} {x : EnR} (m : Int), (l.map (·.t)).Nodup → l[i]? = some x → l.set i { x with m := m } = l.map fun y => if y.t = x.t then { y with m := m } else y
  | [], i, x, m, _, h => by simp at h
  | y :: r, 0, x, m, hn, h => by
    simp at h
    subst h
    rw [List.map_cons, List.nodup_cons] at hn
    rw [List.set_cons_zero, List.map_cons, if_pos rfl]
    congr 1
    have : ∀ z ∈ r, (if z.t = y.t then ({ z with m := m } : EnR) else z) = z := fun z hz => if_neg fun e => hn.1 (by rw [← e]; exact List.mem_map.2 ⟨z, hz, rfl⟩)
    rw [List.map_congr_left this]; simp
  | y :: r, i + 1, x, m, hn, h => by
    rw [List.map_cons, List.nodup_cons] at hn
    have h' : r[i]? = some x := by simpa using h
    have hne : y.t ≠ x.t := fun e => hn.1 (by rw [e]; exact List.mem_map.2 ⟨x, List.mem_of_getElem? h', rfl⟩)
    rw [List.set_cons_succ, List.map_cons, if_neg hne, set_map m hn.2 h']
theorem ents_upd (mk : Nat → Nat) (ls : Nat → List Nat) (t m : Nat) : ∀ n, (ents mk ls n).map (fun y => if y.t = (t : Int) then { y with m := (m : Int) } else y) = ents (upd mk t m) ls n
  | 0 => rfl
  | n + 1 => by
    rw [ents, ents, List.map_append, ents_upd mk ls t m n, List.map_map]
    congr 1
    refine List.map_congr_left fun s hs => ?_
    show (if (s : Int) = t then (⟨s, n, m⟩ : EnR) else ⟨s, n, mk s⟩) = ⟨s, n, upd mk t m s⟩
    by_cases e : s = t
    · subst e; rw [if_pos rfl, upd_same]
    · rw [if_neg (by omega), upd_other e]

/-! insert -/
theorem insE_skip {x : EnR} {f : Bool} : ∀ {A : List EnR} (B : List EnR), (∀ y ∈ A, ¬ (y.p < x.p ∨ f = true ∧ y.p = x.p)) → insE x f (A ++ B) = A ++ insE x f B
  | [], B, _ => rfl
  | y :: A, B, h => by rw [List.cons_append, insE, if_neg (h y (by simp)), insE_skip B fun z hz => h z (by simp [hz])]; rfl
theorem insE_low {x : EnR} {f : Bool} : ∀ {B : List EnR}, (∀ y ∈ B, y.p < x.p) → insE x f B = x :: B
  | [], _ => rfl
  | y :: B, h => by rw [insE, if_pos (.inl (h y (by simp)))]
theorem ents_p {mk : Nat → Nat} {ls : Nat → List Nat} {n : Nat} {x : EnR} (h : x ∈ ents mk ls n) : x.p < n := by
  obtain ⟨p, t, hp, _, rfl⟩ := ents_mem.1 h
  show (p : Int) < n
  omega
theorem ents_congr {mk mk' : Nat → Nat} {ls ls' : Nat → List Nat} : ∀ n, (∀ p, p < n → ls' p = ls p) → (∀ p t, p < n → t ∈ ls p → mk' t = mk t) → ents mk' ls' n = ents mk ls n
  | 0, _, _ => rfl
  | n + 1, h, hk => by
    rw [ents, ents, ents_congr n (fun p hp => h p (by omega)) (fun p t hp => hk p t (by omega)), h n (by omega)]
    congr 1
    exact List.map_congr_left fun s hs => by rw [mkE, mkE, hk n s (by omega) hs]
theorem ents_ins {mk mk' : Nat → Nat} {ls : Nat → List Nat} {t p : Nat} {f : Bool} (hk : ∀ q s, s ∈ ls q → mk' s = mk s) : ∀ n, p < n → insE ⟨t, p, mk' t⟩ f (ents mk ls n) = ents mk' (ins ls t p f) n
  | 0, h => absurd h (by omega)
  | n + 1, h => by
    rw [ents, ents]
    by_cases e : p = n
    · subst e
      have hlow : insE ⟨t, p, mk' t⟩ f (ents mk ls p) = ⟨t, p, mk' t⟩ :: ents mk ls p := insE_low fun y hy => ents_p hy
      have hmap : (ls p).map (mkE mk p) = (ls p).map (mkE mk' p) := List.map_congr_left fun s hs => by rw [mkE, mkE, hk p s hs]
      rw [ents_congr (ls' := ins ls t p f) (mk' := mk') p (fun q hq => ins_other (by omega)) (fun q s _ hs => hk q s hs), ins_same, hmap]
      cases f
      · rw [insE_skip _ (fun y hy => by obtain ⟨s, _, rfl⟩ := List.mem_map.1 hy; show ¬ ((p : Int) < p ∨ false = true ∧ _); simp), hlow, if_neg (by simp), List.map_append, List.append_assoc]; rfl
      · rw [if_pos rfl, List.map_cons]
        cases hl : ls p with
        | nil => exact hlow
        | cons a r => 
          rw [List.map_cons, List.cons_append, insE, if_pos (.inr ⟨rfl, rfl⟩)]; rfl
    · have hskip : ∀ y ∈ (ls n).map (mkE mk n), ¬ (y.p < (⟨t, p, mk' t⟩ : EnR).p ∨ f = true ∧ y.p = (⟨t, p, mk' t⟩ : EnR).p) := fun y hy => by
        obtain ⟨s, _, rfl⟩ := List.mem_map.1 hy
        show ¬ ((n : Int) < p ∨ f = true ∧ (n : Int) = p)
        omega
      rw [insE_skip _ hskip, ents_ins hk n (by omega), ins_other (by omega)]
      congr 1
      exact List.map_congr_left fun s hs => by rw [mkE, mkE, hk n s hs]
end Go.Proofs.Ytbjpaemldnoinaa
