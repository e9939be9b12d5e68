/- Plain: sets of numbers as bits of words; rings of links. -/
import Derived.Test.YtjaaljcdaamcjaaGreatYd
import Derived.Laws.BitsAllLaws
namespace Go.Proofs.YtjaaljcdaamcjaaGreat.Rd
set_option linter.unusedVariables false

/-- The greatest number below an end whose bit is set, or -1. -/
def belowV (f : Nat → Nat) : Nat → Int
  | 0 => -1
  | e + 1 => if (f (e / 64)).testBit (e % 64) = true then (e : Int) else belowV f e
theorem belowV_hit {f : Nat → Nat} {e p : Nat} (hp : p < e) (hs : (f (p / 64)).testBit (p % 64) = true) (hn : ∀ i, p < i → i < e → (f (i / 64)).testBit (i % 64) = false) : belowV f e = p := by
  induction e with
  | zero => omega
  | succ e ih =>
    rw [belowV]
    by_cases h : p = e
    · subst h; rw [if_pos hs]
    · rw [if_neg (by rw [hn e (by omega) (by omega)]; simp)]
      exact ih (by omega) fun i h1 h2 => hn i h1 (by omega)
theorem belowV_skip {f : Nat → Nat} {d e : Nat} (h : d ≤ e) (hn : ∀ i, d ≤ i → i < e → (f (i / 64)).testBit (i % 64) = false) : belowV f e = belowV f d := by
  induction e with
  | zero => rw [show d = 0 from by omega]
  | succ e ih =>
    by_cases hd : d = e + 1
    · rw [hd]
    · rw [belowV, if_neg (by rw [hn e (by omega) (by omega)]; simp)]
      exact ih (by omega) fun i h1 h2 => hn i h1 (by omega)
theorem has_bit (x k : Nat) (hx : x < 2 ^ 64) : (bits .and .u64 ((x : Int) / 2 ^ k) 1 == 1) = x.testBit k := by
  have e : (x : Int) / 2 ^ k = ((x / 2 ^ k : Nat) : Int) := by simp
  have hlt : x / 2 ^ k < 18446744073709551616 := Nat.lt_of_le_of_lt (Nat.div_le_self _ _) hx
  rw [e, show (1 : Int) = ((1 : Nat) : Int) from rfl, u64_and_nat _ _ hlt (by decide), Nat.and_one_is_mod, Nat.testBit_eq_decide_div_mod_eq]
  rw [Bool.eq_iff_iff]
  simp only [beq_iff_eq, decide_eq_true_eq]
  omega
theorem add_bit (x k i : Nat) : (x ||| 2 ^ k).testBit i = (x.testBit i || decide (k = i)) := by rw [Nat.testBit_or, Nat.testBit_two_pow]
theorem sub_bit (x k i : Nat) (hi : i < 64) (hk : k < 64) : (x &&& (18446744073709551615 - 2 ^ k)).testBit i = (x.testBit i && !decide (k = i)) := by
  have hlt : 2 ^ k < 2 ^ 64 := Nat.pow_lt_pow_right (by decide) hk
  have e : 18446744073709551615 - 2 ^ k = 2 ^ 64 - (2 ^ k + 1) := by omega
  rw [Nat.testBit_and, e, Nat.testBit_two_pow_sub_succ hlt, Nat.testBit_two_pow]
  simp [hi]
theorem add_lt (x k : Nat) (hx : x < 2 ^ 64) (hk : k < 64) : x ||| 2 ^ k < 2 ^ 64 := Nat.or_lt_two_pow hx (Nat.pow_lt_pow_right (by decide) hk)
theorem sub_lt (x y : Nat) (hx : x < 2 ^ 64) : x &&& y < 2 ^ 64 := Nat.lt_of_le_of_lt Nat.and_le_left hx
/-- The bits below m: their greatest is the number's logarithm. -/
theorem low_zero {x m : Nat} (h : x % 2 ^ m = 0) (i : Nat) (hi : i < m) : x.testBit i = false := by
  have := Nat.testBit_mod_two_pow x m i
  rw [h] at this
  simpa [hi] using this.symm
theorem low_top {x m : Nat} (h : x % 2 ^ m ≠ 0) : (x % 2 ^ m).log2 < m ∧ x.testBit (x % 2 ^ m).log2 = true ∧ ∀ i, (x % 2 ^ m).log2 < i → i < m → x.testBit i = false := by
  have hlt : x % 2 ^ m < 2 ^ m := Nat.mod_lt _ (Nat.two_pow_pos m)
  have h1 : (x % 2 ^ m).log2 < m := (Nat.log2_lt h).2 hlt
  refine ⟨h1, ?_, fun i hi him => ?_⟩
  · have := Nat.testBit_mod_two_pow x m (x % 2 ^ m).log2
    rw [Nat.testBit_log2 h] at this
    simpa [h1] using this.symm
  · have h2 := Nat.testBit_mod_two_pow x m i
    rw [Nat.testBit_lt_two_pow ((Nat.log2_lt h).1 hi)] at h2
    simpa [him] using h2.symm

/-! ### Rings -/
def Lk (a b : Nat → Nat) (x y : Nat) : Prop := a x = y ∧ b y = x
def seg (a b : Nat → Nat) : Nat → List Nat → Nat → Prop
  | x, [], y => Lk a b x y
  | x, z :: r, y => Lk a b x z ∧ seg a b z r y
/-- The links lead around the list. -/
def Ring (a b : Nat → Nat) : List Nat → Prop
  | [] => True
  | h :: r => seg a b h r h
theorem seg_app {a b : Nat → Nat} : ∀ {x y z : Nat} {l m : List Nat}, seg a b x (l ++ z :: m) y ↔ seg a b x l z ∧ seg a b z m y
  | x, y, z, [], m => Iff.rfl
  | x, y, z, w :: l, m => by
    show (Lk a b x w ∧ seg a b w (l ++ z :: m) y) ↔ _
    rw [seg_app]
    exact and_assoc.symm
theorem seg_congr {a b a' b' : Nat → Nat} : ∀ {x y : Nat} {l : List Nat}, (∀ i ∈ x :: l, a' i = a i) → (∀ i ∈ l ++ [y], b' i = b i) → seg a b x l y → seg a' b' x l y
  | x, y, [], h1, h2, ⟨e1, e2⟩ => ⟨(h1 x (by simp)).trans e1, (h2 y (by simp)).trans e2⟩
  | x, y, z :: l, h1, h2, ⟨⟨e1, e2⟩, hs⟩ => ⟨⟨(h1 x (by simp)).trans e1, (h2 z (by simp)).trans e2⟩, seg_congr (fun i hi => h1 i (by simp only [List.mem_cons] at hi ⊢; exact .inr hi)) (fun i hi => h2 i (by simp only [List.cons_append, List.mem_cons] at hi ⊢; exact .inr hi)) hs⟩
theorem Ring.rot {a b : Nat → Nat} {l m : List Nat} (h : Ring a b (l ++ m)) : Ring a b (m ++ l) := by
  cases l with
  | nil => simpa using h
  | cons x l =>
    cases m with
    | nil => simpa using h
    | cons y m =>
      have h' : seg a b x (l ++ y :: m) x := h
      obtain ⟨h1, h2⟩ := seg_app.1 h'
      exact seg_app.2 ⟨h2, h1⟩
theorem Ring.congr {a b a' b' : Nat → Nat} {l : List Nat} (h : Ring a b l) (h1 : ∀ i ∈ l, a' i = a i) (h2 : ∀ i ∈ l, b' i = b i) : Ring a' b' l := by
  cases l with
  | nil => trivial
  | cons x l =>
    refine seg_congr h1 (fun i hi => ?_) h
    rcases List.mem_append.1 hi with hi | hi
    · exact h2 i (by simp [hi])
    · rw [List.mem_singleton.1 hi]; exact h2 x (by simp)
theorem Ring.one (t : Nat) {a b : Nat → Nat} : Ring (upd a t t) (upd b t t) [t] := ⟨upd_same _ _ _, upd_same _ _ _⟩
/-- The last thread of a ring stands before the first. -/
theorem Ring.before_mem {a b : Nat → Nat} {h : Nat} {r : List Nat} (hr : Ring a b (h :: r)) : b h ∈ h :: r := by
  rcases List.eq_nil_or_concat r with e | ⟨q, z, e⟩
  · subst e; obtain ⟨_, e2⟩ := (hr : Lk a b h h); rw [e2]; simp
  · rw [List.concat_eq_append] at e
    subst e
    obtain ⟨_, h2⟩ := seg_app.1 (hr : seg a b h (q ++ z :: []) h)
    obtain ⟨_, e2⟩ := (h2 : Lk a b z h)
    rw [e2]; simp
theorem Ring.after_mem {a b : Nat → Nat} {h : Nat} {r : List Nat} (hr : Ring a b (h :: r)) : a h ∈ h :: r := by
  cases r with
  | nil => obtain ⟨e1, _⟩ := (hr : Lk a b h h); rw [e1]; simp
  | cons z r => obtain ⟨⟨e1, _⟩, _⟩ := (hr : Lk a b h z ∧ seg a b z r h); rw [e1]; simp
theorem Ring.alone_iff {a b : Nat → Nat} {h : Nat} {r : List Nat} (hr : Ring a b (h :: r)) (hn : (h :: r).Nodup) : a h = h ↔ r = [] := by
  cases r with
  | nil => exact ⟨fun _ => rfl, fun _ => (hr : Lk a b h h).1⟩
  | cons z r =>
    obtain ⟨⟨e1, _⟩, _⟩ := (hr : Lk a b h z ∧ seg a b z r h)
    constructor
    · intro e; rw [e1] at e; subst e; simp at hn
    · intro e; cases e
/-- A thread enters a ring before its first one. -/
theorem Ring.link {a b : Nat → Nat} {h t : Nat} {r : List Nat} (hr : Ring a b (h :: r)) (hn : (h :: r).Nodup) (ht : t ∉ h :: r) : Ring (upd (upd a (b h) t) t h) (upd (upd b t (b h)) h t) (h :: r ++ [t]) := by
  have hth : t ≠ h := fun e => ht (by simp [e])
  rcases List.eq_nil_or_concat r with e | ⟨q, z, e⟩
  · subst e
    obtain ⟨e1, e2⟩ := (hr : Lk a b h h)
    refine ⟨⟨?_, ?_⟩, ?_, ?_⟩ <;> simp [upd, e2, hth, Ne.symm hth]
  · rw [List.concat_eq_append] at e
    subst e
    obtain ⟨h1, e1, e2⟩ := seg_app.1 (hr : seg a b h (q ++ z :: []) h)
    rw [e2]
    have htz : t ≠ z := fun e => ht (by simp [e])
    have hzh : z ≠ h := fun e => by subst e; simp at hn
    show seg _ _ h (q ++ [z] ++ [t]) h
    rw [List.append_assoc]
    refine seg_app.2 ⟨seg_congr (fun i hi => ?_) (fun i hi => ?_) h1, ⟨?_, ?_⟩, ?_, ?_⟩
    · have hiz : i ≠ z := fun e => by
        subst e
        rcases List.mem_cons.1 hi with rfl | hi
        · exact hzh rfl
        · have := (List.nodup_cons.1 hn).2; rw [List.nodup_append] at this; exact this.2.2 _ hi _ (by simp) rfl
      have him : i ∈ h :: (q ++ [z]) := by
        rcases List.mem_cons.1 hi with e | e
        · exact List.mem_cons.2 (.inl e)
        · exact List.mem_cons_of_mem _ (List.mem_append_left _ e)
      have hit : i ≠ t := fun e => ht (e ▸ him)
      rw [upd_other hit, upd_other hiz]
    · have hih : i ≠ h := fun e => by subst e; exact (List.nodup_cons.1 hn).1 hi
      have hit : i ≠ t := fun e => ht (by subst e; exact List.mem_cons_of_mem _ hi)
      rw [upd_other hih, upd_other hit]
    · simp [upd, Ne.symm htz]
    · simp [upd, hth]
    · simp [upd]
    · simp [upd]
/-- The first thread of a ring leaves it. -/
theorem Ring.unlink {a b : Nat → Nat} {t z : Nat} {r : List Nat} (hr : Ring a b (t :: z :: r)) (hn : (t :: z :: r).Nodup) : a t = z ∧ Ring (upd a (b t) z) (upd b z (b t)) (z :: r) := by
  obtain ⟨⟨e1, _⟩, hs⟩ := (hr : Lk a b t z ∧ seg a b z r t)
  refine ⟨e1, ?_⟩
  have hn2 := (List.nodup_cons.1 hn).2
  rcases List.eq_nil_or_concat r with e | ⟨q, y, e⟩
  · subst e
    obtain ⟨_, e2⟩ := (hs : Lk a b z t)
    rw [e2]
    exact ⟨upd_same _ _ _, upd_same _ _ _⟩
  · rw [List.concat_eq_append] at e
    subst e
    obtain ⟨h1, _, e2⟩ := seg_app.1 (hs : seg a b z (q ++ y :: []) t)
    rw [e2]
    have hyz : y ≠ z := fun e => by subst e; simp at hn2
    refine seg_app.2 ⟨seg_congr (fun i hi => ?_) (fun i hi => ?_) h1, upd_same _ _ _, upd_same _ _ _⟩
    · refine upd_other fun e => ?_
      subst e
      rcases List.mem_cons.1 hi with rfl | hi
      · exact hyz rfl
      · have := (List.nodup_cons.1 hn2).2; rw [List.nodup_append] at this; exact this.2.2 _ hi _ (by simp) rfl
    · exact upd_other fun e => by subst e; exact (List.nodup_cons.1 hn2).1 hi
end Go.Proofs.YtjaaljcdaamcjaaGreat.Rd
