/- The server as plain data: what its functions do to it. -/
import Derived.Test.YtibmmonboeifhaaUd
namespace Go.Proofs.Ytibmmonboeifhaa
set_option linter.unusedVariables false

structure AQ where
  per : Int
  low : Int
  bud : Int
  cap : Nat
  l : List (Int × Int)
  chk : Int
  ran : Int
  told : Int
def lst (q : SQ) : List (Int × Int) := (List.range q.count).map fun i => q.pl ((q.front + i) % q.cap)
def ab (q : SQ) : AQ := ⟨q.per, q.low, q.bud, q.cap, lst q, q.chk, q.ran, q.told⟩
theorem lst_len (q : SQ) : (lst q).length = q.count := by simp [lst]
theorem lst_get (q : SQ) (i : Nat) (h : i < q.count) : (lst q)[i]? = some (q.pl ((q.front + i) % q.cap)) := by simp [lst, h]
theorem mod_of (f i c : Nat) (hf : f < c) (hi : i < c) : (f + i) % c = if f + i < c then f + i else f + i - c := by
  split
  · rw [Nat.mod_eq_of_lt (by assumption)]
  · rw [Nat.mod_eq_sub_mod (by omega), Nat.mod_eq_of_lt (by omega)]
theorem mod_ne {f i j c : Nat} (hf : f < c) (hi : i < c) (hj : j < c) (h : i ≠ j) : (f + i) % c ≠ (f + j) % c := by
  rw [mod_of f i c hf hi, mod_of f j c hf hj]
  split <;> split <;> omega
theorem lst_drop (q : SQ) (hf : q.front < q.cap) (h0 : 0 < q.count) : lst q = q.pl q.front :: lst (dropQ q) := by
  obtain ⟨n, hn⟩ : ∃ n, q.count = n + 1 := ⟨q.count - 1, by omega⟩
  rw [lst, lst, hn, List.range_succ_eq_map, List.map_cons, Nat.add_zero, Nat.mod_eq_of_lt hf, List.map_map]
  congr 1
  rw [show (dropQ q).count = n from by show q.count - 1 = n; omega]
  refine List.map_congr_left fun i _ => ?_
  show q.pl ((q.front + (i + 1)) % q.cap) = q.pl (((q.front + 1) % q.cap + i) % q.cap)
  rw [Nat.mod_add_mod, Nat.add_assoc, Nat.add_comm i 1]
theorem lst_add (q : SQ) (t a : Int) (hf : q.front < q.cap) (h0 : q.count < q.cap) : lst (addQ q t a) = lst q ++ [(t, a)] := by
  rw [lst, lst]
  show (List.range (q.count + 1)).map _ = _
  rw [List.range_succ, List.map_append]
  congr 1
  · refine List.map_congr_left fun i hi => ?_
    have hi' := List.mem_range.1 hi
    show updP q.pl ((q.front + q.count) % q.cap) (t, a) ((q.front + i) % q.cap) = _
    exact updP_other (mod_ne hf (show i < q.cap by omega) h0 (by omega))
  · show [updP q.pl ((q.front + q.count) % q.cap) (t, a) ((q.front + q.count) % q.cap)] = _
    rw [updP_same]
theorem lst_last (q : SQ) (x : Int × Int) (hf : q.front < q.cap) (h0 : 0 < q.count) (hc : q.count ≤ q.cap) (q' : SQ) (hq : q' = { q with pl := updP q.pl ((q.front + (q.count - 1)) % q.cap) x }) : lst q' = (lst q).dropLast ++ [x] ∧ (lst q).getLastD (0, 0) = q.pl ((q.front + (q.count - 1)) % q.cap) := by
  subst hq
  obtain ⟨n, hn⟩ : ∃ n, q.count = n + 1 := ⟨q.count - 1, by omega⟩
  have e : lst q = (List.range n).map (fun i => q.pl ((q.front + i) % q.cap)) ++ [q.pl ((q.front + n) % q.cap)] := by
    rw [lst, hn, List.range_succ, List.map_append]; rfl
  refine ⟨?_, ?_⟩
  · rw [e, List.dropLast_concat, lst]
    show (List.range q.count).map _ = _
    rw [hn, List.range_succ, List.map_append]
    congr 1
    · refine List.map_congr_left fun i hi => ?_
      have hi' := List.mem_range.1 hi
      show updP q.pl ((q.front + (n + 1 - 1)) % q.cap) x ((q.front + i) % q.cap) = _
      rw [show n + 1 - 1 = n from rfl]
      exact updP_other (mod_ne hf (show i < q.cap by omega) (show n < q.cap by omega) (by omega))
    · show [updP q.pl ((q.front + (n + 1 - 1)) % q.cap) x ((q.front + n) % q.cap)] = _
      rw [show n + 1 - 1 = n from rfl, updP_same]
  · rw [e, hn, List.getLastD_concat]; rfl

/-- The chunk ends. -/
def endA (s : AQ) : AQ :=
  if s.l.length < s.cap then { s with chk := 0, l := s.l ++ [(s.ran + 1 + s.per, s.chk)] }
  else { s with chk := 0, l := s.l.dropLast ++ [(if (s.l.getLastD (0, 0)).1 < s.ran + 1 + s.per then s.ran + 1 + s.per else (s.l.getLastD (0, 0)).1, (s.l.getLastD (0, 0)).2 + s.chk)] }
theorem ab_end (q : SQ) (hf : q.front < q.cap) (hc : q.count ≤ q.cap) (h1 : 0 < q.cap) : ab (endQ q) = endA (ab q) := by
  rw [endQ, endA]
  by_cases h0 : q.count < q.cap
  · rw [if_pos h0, if_pos (show (ab q).l.length < (ab q).cap by show (lst q).length < q.cap; rw [lst_len]; exact h0)]
    rw [ab, lst_add { q with chk := 0 } _ _ hf h0]; rfl
  · rw [if_neg h0, if_neg (show ¬ (ab q).l.length < (ab q).cap by show ¬ (lst q).length < q.cap; rw [lst_len]; exact h0)]
    have e := fun x => lst_last { q with chk := 0 } x hf (show 0 < q.count by omega) hc _ rfl
    rw [ab, (e _).1]
    have e2 := (e (0, 0)).2
    have e2' : (lst q).getLastD (0, 0) = q.pl ((q.front + (q.count - 1)) % q.cap) := e2
    show AQ.mk _ _ _ _ _ _ _ _ = AQ.mk _ _ _ _ _ _ _ _
    congr 1
    show (lst q).dropLast ++ _ = (lst q).dropLast ++ _
    rw [show (ab q).l = lst q from rfl, e2']; rfl
/-- Replenishments up to a time are taken. -/
def takeL (u : Int) : Int → List (Int × Int) → Int × List (Int × Int)
  | b, [] => (b, [])
  | b, x :: r => if x.1 ≤ u then takeL u (b + x.2) r else (b, x :: r)
def takeA (u : Int) (s : AQ) : AQ := { s with bud := (takeL u s.bud s.l).1, l := (takeL u s.bud s.l).2 }
def tellA (now : Int) (s : AQ) : AQ :=
  { takeA now (if 0 < s.chk ∧ s.ran + 1 < now then endA (takeA (s.ran + 1) s) else s) with told := now }

def sumL (l : List (Int × Int)) : Int := (l.map (·.2)).sum
theorem sumL_nil : sumL [] = 0 := rfl
theorem sumL_cons (x : Int × Int) (l : List (Int × Int)) : sumL (x :: l) = x.2 + sumL l := by simp [sumL]
theorem sumL_app (l m : List (Int × Int)) : sumL (l ++ m) = sumL l + sumL m := by simp [sumL]
theorem sumL_nonneg {l : List (Int × Int)} (h : ∀ x ∈ l, 0 ≤ x.2) : 0 ≤ sumL l := by
  induction l with
  | nil => exact Int.le_refl _
  | cons x r ih => rw [sumL_cons]; have := h x (by simp); have := ih fun y hy => h y (by simp [hy]); omega
theorem sumL_mem {l : List (Int × Int)} (h : ∀ x ∈ l, 0 ≤ x.2) {x : Int × Int} (hx : x ∈ l) : x.2 ≤ sumL l := by
  induction l with
  | nil => cases hx
  | cons y r ih =>
    rw [sumL_cons]
    have h0 := h y (by simp)
    have h1 := sumL_nonneg (l := r) fun z hz => h z (by simp [hz])
    rcases List.mem_cons.1 hx with rfl | hx
    · omega
    · have := ih (fun z hz => h z (by simp [hz])) hx; omega
theorem split_last {l : List (Int × Int)} (h : l ≠ []) : l = l.dropLast ++ [l.getLastD (0, 0)] := by
  rw [List.getLastD_eq_getLast?, List.getLast?_eq_some_getLast h]; exact (List.dropLast_concat_getLast h).symm

/-- What always holds of a server. -/
structure AI (T : Int) (s : AQ) : Prop where
  per0 : 0 ≤ s.per
  per1 : s.per ≤ 1000000
  cap0 : 0 < s.cap
  len : s.l.length ≤ s.cap
  bud0 : 0 ≤ s.bud
  chk0 : 0 ≤ s.chk
  amt : ∀ x ∈ s.l, 0 ≤ x.2
  sum : s.bud + sumL s.l + s.chk = T
  tot : T ≤ 1000000
  ran0 : -1 ≤ s.ran
  ran1 : s.ran ≤ 1099511627776
theorem AI.sb {T : Int} {q : SQ} (h : AI T (ab q)) : SB q := by
  have h1 := sumL_nonneg h.amt
  have h2 := h.sum
  have h3 := h.tot
  have h4 := h.bud0
  have h5 := h.chk0
  have e1 : (ab q).bud = q.bud := rfl
  have e2 : (ab q).chk = q.chk := rfl
  refine ⟨h.per0, h.per1, h.chk0, by omega, h.ran0, h.ran1, h.bud0, by omega, fun i hi => ?_⟩
  have hm : q.pl ((q.front + i) % q.cap) ∈ (ab q).l := List.mem_of_getElem? (lst_get q i hi)
  have := sumL_mem h.amt hm
  exact ⟨h.amt _ hm, by omega⟩
theorem takeL_sum (u : Int) : ∀ (l : List (Int × Int)) (b : Int), (takeL u b l).1 + sumL (takeL u b l).2 = b + sumL l
  | [], b => rfl
  | x :: r, b => by
    rw [takeL]; split
    · rw [takeL_sum u r, sumL_cons]; omega
    · rfl
theorem takeL_suf (u : Int) : ∀ (l : List (Int × Int)) (b : Int), (takeL u b l).2 <:+ l
  | [], b => List.suffix_refl _
  | x :: r, b => by
    rw [takeL]; split
    · exact (takeL_suf u r _).trans (List.suffix_cons _ _)
    · exact List.suffix_refl _
theorem takeL_ge (u : Int) : ∀ (l : List (Int × Int)) (b : Int), (∀ x ∈ l, 0 ≤ x.2) → b ≤ (takeL u b l).1
  | [], b, _ => Int.le_refl _
  | x :: r, b, h => by
    rw [takeL]; split
    · have := takeL_ge u r (b + x.2) fun y hy => h y (by simp [hy])
      have := h x (by simp); omega
    · exact Int.le_refl _
theorem AI.take {T : Int} {s : AQ} (h : AI T s) (u : Int) : AI T (takeA u s) :=
  ⟨h.per0, h.per1, h.cap0, Nat.le_trans (takeL_suf u s.l s.bud).length_le h.len, Int.le_trans h.bud0 (takeL_ge u _ _ h.amt), h.chk0, fun x hx => h.amt x ((takeL_suf u s.l s.bud).subset hx),
    by show (takeL u s.bud s.l).1 + sumL (takeL u s.bud s.l).2 + s.chk = T; rw [takeL_sum]; exact h.sum, h.tot, h.ran0, h.ran1⟩
theorem AI.ended {T : Int} {s : AQ} (h : AI T s) : AI T (endA s) := by
  rw [endA]; split
  · rename_i hl
    refine ⟨h.per0, h.per1, h.cap0, by show (s.l ++ [_]).length ≤ s.cap; rw [List.length_append]; exact hl, h.bud0, Int.le_refl _, fun x hx => ?_, ?_, h.tot, h.ran0, h.ran1⟩
    · rcases List.mem_append.1 hx with hx | hx
      · exact h.amt x hx
      · rw [List.mem_singleton.1 hx]; exact h.chk0
    · have := h.sum
      show s.bud + sumL (s.l ++ [(s.ran + 1 + s.per, s.chk)]) + 0 = T
      rw [sumL_app, sumL_cons, sumL_nil]; omega
  · rename_i hl
    have hne : s.l ≠ [] := fun e => hl (by rw [e]; exact h.cap0)
    have hs := split_last hne
    have hm : s.l.getLastD (0, 0) ∈ s.l := by rw [hs]; simp
    have hlen : s.l.dropLast.length + 1 = s.l.length := by have := congrArg List.length hs; simpa using this.symm
    refine ⟨h.per0, h.per1, h.cap0, ?_, h.bud0, Int.le_refl _, fun x hx => ?_, ?_, h.tot, h.ran0, h.ran1⟩
    · show (s.l.dropLast ++ [_]).length ≤ s.cap
      rw [List.length_append]
      have := h.len
      simp only [List.length_cons, List.length_nil]; omega
    · rcases List.mem_append.1 hx with hx | hx
      · exact h.amt x (by rw [hs]; simp [hx])
      · rw [List.mem_singleton.1 hx]
        have := h.amt _ hm
        have := h.chk0
        show 0 ≤ (s.l.getLastD (0, 0)).2 + s.chk
        omega
    · have h1 := h.sum
      have h2 := congrArg sumL hs
      rw [sumL_app, sumL_cons, sumL_nil] at h2
      show s.bud + sumL (s.l.dropLast ++ [_]) + 0 = T
      rw [sumL_app, sumL_cons, sumL_nil]
      show s.bud + (sumL s.l.dropLast + ((s.l.getLastD (0, 0)).2 + s.chk + 0)) + 0 = T
      omega
theorem AI.tell {T : Int} {s : AQ} (h : AI T s) (now : Int) : AI T (tellA now s) := by
  have : AI T (takeA now (if 0 < s.chk ∧ s.ran + 1 < now then endA (takeA (s.ran + 1) s) else s)) := by
    split
    · exact (h.take _).ended.take _
    · exact h.take _
  exact ⟨this.per0, this.per1, this.cap0, this.len, this.bud0, this.chk0, this.amt, this.sum, this.tot, this.ran0, this.ran1⟩
end Go.Proofs.Ytibmmonboeifhaa
