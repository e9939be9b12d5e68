/- Plain: edges, chains, breadth first, the least chain, the least fixpoint. -/
namespace Go.Proofs.Yteikipiigbjgbaa
set_option linter.unusedVariables false

abbrev Es := List (Nat × Nat)
/-- There is a chain of edges (waiter, holder). -/
inductive Reach (es : Es) : Nat → Nat → Prop
  | refl (x : Nat) : Reach es x x
  | step {x h y : Nat} : (x, h) ∈ es → Reach es h y → Reach es x y
theorem Reach.trans {es : Es} {x y z : Nat} (h : Reach es x y) (k : Reach es y z) : Reach es x z := by
  induction h with
  | refl _ => exact k
  | step a _ ih => exact .step a (ih k)
theorem Reach.snoc {es : Es} {x y z : Nat} (h : Reach es x y) (k : (y, z) ∈ es) : Reach es x z := h.trans (.step k (.refl _))
theorem Reach.mono {es es' : Es} (hs : ∀ e ∈ es, e ∈ es') {x y : Nat} (h : Reach es x y) : Reach es' x y := by
  induction h with
  | refl _ => exact .refl _
  | step a _ ih => exact .step (hs _ a) ih

def outs (es : Es) (x : Nat) : List Nat := (es.filter fun e => e.1 == x).map (·.2)
def ins (es : Es) (x : Nat) : List Nat := (es.filter fun e => e.2 == x).map (·.1)
theorem mem_outs {es : Es} {x h : Nat} : h ∈ outs es x ↔ (x, h) ∈ es := by
  simp only [outs, List.mem_map, List.mem_filter, beq_iff_eq]
  constructor
  · rintro ⟨⟨a, b⟩, ⟨h1, h2⟩, rfl⟩; simp at h2; subst h2; exact h1
  · intro h'; exact ⟨(x, h), ⟨h', rfl⟩, rfl⟩
theorem mem_ins {es : Es} {x h : Nat} : x ∈ ins es h ↔ (x, h) ∈ es := by
  simp only [ins, List.mem_map, List.mem_filter, beq_iff_eq]
  constructor
  · rintro ⟨⟨a, b⟩, ⟨h1, h2⟩, rfl⟩; simp at h2; subst h2; exact h1
  · intro h'; exact ⟨(x, h), ⟨h', rfl⟩, rfl⟩
theorem outs_snoc (es : Es) (e : Nat × Nat) (x : Nat) : outs (es ++ [e]) x = if x = e.1 then outs es x ++ [e.2] else outs es x := by
  by_cases h : x = e.1
  · subst h; simp [outs]
  · have h' : ¬ e.1 = x := fun a => h a.symm
    simp [outs, List.filter_append, h, h']
theorem ins_snoc (es : Es) (e : Nat × Nat) (x : Nat) : ins (es ++ [e]) x = if x = e.2 then ins es x ++ [e.1] else ins es x := by
  by_cases h : x = e.2
  · subst h; simp [ins]
  · have h' : ¬ e.2 = x := fun a => h a.symm
    simp [ins, List.filter_append, h, h']
/-- All numbers of a list of edges are threads. -/
def Val (n : Nat) (es : Es) : Prop := ∀ e ∈ es, e.1 < n ∧ e.2 < n
theorem outs_lt {n : Nat} {es : Es} (hv : Val n es) {x h : Nat} (hh : h ∈ outs es x) : h < n := (hv _ (mem_outs.1 hh)).2
theorem ins_lt {n : Nat} {es : Es} (hv : Val n es) {x h : Nat} (hh : x ∈ ins es h) : x < n := (hv _ (mem_ins.1 hh)).1

def upI (f : Nat → Int) (i : Nat) (x : Int) : Nat → Int := fun j => if j = i then x else f j
theorem upI_same (f : Nat → Int) (i : Nat) (x : Int) : upI f i x i = x := by simp [upI]
theorem upI_other {f : Nat → Int} {i j : Nat} {x : Int} (h : j ≠ i) : upI f i x j = f j := by simp [upI, h]

/-! breadth first: -1 where there is no chain -/
def visit (d : Int) : List Nat → (Nat → Int) → List Nat → (Nat → Int) × List Nat
  | [], D, q => (D, q)
  | x :: r, D, q => if D x = -1 then visit d r (upI D x d) (q ++ [x]) else visit d r D q
def bfs (ws : Nat → List Nat) : Nat → (Nat → Int) → List Nat → (Nat → Int)
  | 0, D, _ => D
  | _ + 1, D, [] => D
  | f + 1, D, h :: q => bfs ws f (visit (D h + 1) (ws h) D q).1 (visit (D h + 1) (ws h) D q).2
def start (t : Nat) : Nat → Int := upI (fun _ => -1) t 0
def dist (n : Nat) (es : Es) (t : Nat) : Nat → Int := bfs (ins es) n (start t) [t]
def blank (n : Nat) (D : Nat → Int) : Nat := ((List.range n).filter fun i => D i == -1).length

theorem blank_up_aux (D : Nat → Int) (x : Nat) (d : Int) (hx : D x = -1) (hd : d ≠ -1) : ∀ n, ((List.range n).filter fun i => upI D x d i == -1).length + (if x < n then 1 else 0) = ((List.range n).filter fun i => D i == -1).length
  | 0 => by simp
  | n + 1 => by
    have ih := blank_up_aux D x d hx hd n
    rw [List.range_succ, List.filter_append, List.filter_append, List.length_append, List.length_append, ← ih]
    by_cases h : n = x
    · subst h
      rw [if_neg (Nat.lt_irrefl _), if_pos (by omega)]
      simp [upI_same, hx, hd]
    · rw [show (List.filter (fun i => upI D x d i == -1) [n]) = List.filter (fun i => D i == -1) [n] by simp [List.filter_cons, upI_other h]]
      by_cases h2 : x < n
      · rw [if_pos h2, if_pos (by omega)]; omega
      · rw [if_neg h2, if_neg (by omega)]; omega
theorem blank_up {n : Nat} {D : Nat → Int} {x : Nat} {d : Int} (hx : D x = -1) (hd : d ≠ -1) (hn : x < n) : blank n (upI D x d) + 1 = blank n D := by
  have := blank_up_aux D x d hx hd n
  rw [if_pos hn] at this; exact this
/-- What a visit leaves. -/
structure Vis (n : Nat) (d : Int) (ws : List Nat) (D : Nat → Int) (q : List Nat) (r : (Nat → Int) × List Nat) : Prop where
  count : blank n r.1 + r.2.length = blank n D + q.length
  old : ∀ x, D x ≠ -1 → r.1 x = D x
  new : ∀ x, D x = -1 → r.1 x ≠ -1 → r.1 x = d ∧ x ∈ ws ∧ x ∈ r.2
  all : ∀ x ∈ ws, r.1 x ≠ -1
  more : ∀ x ∈ q, x ∈ r.2
  from_ : ∀ x ∈ r.2, x ∈ q ∨ (D x = -1 ∧ r.1 x ≠ -1)
theorem visit_holds {n : Nat} {d : Int} (hd : 0 ≤ d) : ∀ (ws : List Nat) (D : Nat → Int) (q : List Nat), (∀ x ∈ ws, x < n) → Vis n d ws D q (visit d ws D q)
  | [], D, q, _ => ⟨rfl, fun _ _ => rfl, fun x h1 h2 => absurd h1 h2, (fun _ h => nomatch h), fun _ h => h, fun _ h => .inl h⟩
  | x :: r, D, q, hw => by
    have hr : ∀ y ∈ r, y < n := fun y hy => hw y (List.mem_cons_of_mem _ hy)
    by_cases hx : D x = -1
    · rw [visit, if_pos hx]
      have ih := visit_holds hd r (upI D x d) (q ++ [x]) hr
      have hb := blank_up (n := n) hx (show d ≠ -1 by omega) (hw x (List.mem_cons_self ..))
      have hxd : (visit d r (upI D x d) (q ++ [x])).1 x = d := by rw [ih.old x (by rw [upI_same]; omega), upI_same]
      refine ⟨?_, ?_, ?_, ?_, ?_, ?_⟩
      · have := ih.count; rw [List.length_append, List.length_singleton] at this; omega
      · intro y hy
        have hyx : y ≠ x := fun e => hy (by rw [e]; exact hx)
        rw [ih.old y (by rw [upI_other hyx]; exact hy), upI_other hyx]
      · intro y hy1 hy2
        by_cases e : y = x
        · subst e; exact ⟨hxd, List.mem_cons_self .., ih.more _ (List.mem_append_right _ (List.mem_singleton.2 rfl))⟩
        · obtain ⟨a, b, c⟩ := ih.new y (by rw [upI_other e]; exact hy1) hy2
          exact ⟨a, List.mem_cons_of_mem _ b, c⟩
      · intro y hy
        rcases List.mem_cons.1 hy with rfl | hy
        · rw [hxd]; omega
        · exact ih.all y hy
      · intro y hy; exact ih.more y (List.mem_append_left _ hy)
      · intro y hy
        rcases ih.from_ y hy with h | ⟨h1, h2⟩
        · rcases List.mem_append.1 h with h | h
          · exact .inl h
          · rw [List.mem_singleton] at h; subst h; exact .inr ⟨hx, by rw [hxd]; omega⟩
        · have e : y ≠ x := fun e => by rw [e, upI_same] at h1; omega
          rw [upI_other e] at h1; exact .inr ⟨h1, h2⟩
    · rw [visit, if_neg hx]
      have ih := visit_holds hd r D q hr
      refine ⟨ih.count, ih.old, fun y h1 h2 => ?_, fun y hy => ?_, ih.more, ih.from_⟩
      · obtain ⟨a, b, c⟩ := ih.new y h1 h2; exact ⟨a, List.mem_cons_of_mem _ b, c⟩
      · rcases List.mem_cons.1 hy with rfl | hy
        · rw [ih.old _ hx]; exact hx
        · exact ih.all y hy
/-- What holds of the distances while there is work. -/
structure Bf (n : Nat) (es : Es) (t : Nat) (D : Nat → Int) (q : List Nat) : Prop where
  lt : ∀ x, D x ≠ -1 → x < n
  ge : ∀ x, D x ≠ -1 → 0 ≤ D x
  t0 : D t = 0
  zero : ∀ x, D x = 0 → x = t
  next : ∀ x, 0 < D x → ∃ h, (x, h) ∈ es ∧ 0 ≤ D h ∧ D h < D x
  qn : ∀ x ∈ q, D x ≠ -1
  done : ∀ y, D y ≠ -1 → y ∉ q → ∀ x, (x, y) ∈ es → D x ≠ -1
theorem start_t (t : Nat) : start t t = 0 := upI_same ..
theorem start_o {t x : Nat} (h : x ≠ t) : start t x = -1 := upI_other h
theorem bf_start {n : Nat} {es : Es} {t : Nat} (ht : t < n) : Bf n es t (start t) [t] := by
  have hne : ∀ x, start t x ≠ -1 → x = t := fun x hx => Classical.byContradiction fun e => hx (start_o e)
  refine ⟨fun x hx => by rw [hne x hx]; exact ht, fun x hx => by rw [hne x hx, start_t]; exact Int.le_refl _, start_t t, fun x hx => hne x (by rw [hx]; decide), fun x hx => ?_, fun x hx => ?_, fun y hy hq => ?_⟩
  · rw [hne x (by omega), start_t] at hx; omega
  · rw [List.mem_singleton] at hx; subst hx; rw [start_t]; decide
  · exact absurd (List.mem_singleton.2 (hne y hy)) hq
theorem blank_start_aux (t : Nat) : ∀ n, ((List.range n).filter fun i => start t i == -1).length + (if t < n then 1 else 0) = n := by
  intro n
  have h := blank_up_aux (fun _ => -1) t 0 rfl (by decide) n
  have h2 : ((List.range n).filter fun i => (fun _ : Nat => (-1 : Int)) i == -1) = List.range n := List.filter_eq_self.2 (fun _ _ => rfl)
  rw [h2, List.length_range] at h; exact h
theorem blank_start {n t : Nat} (ht : t < n) : blank n (start t) + 1 = n := by have := blank_start_aux t n; rw [if_pos ht] at this; exact this
theorem bf_step {n : Nat} {es : Es} (hv : Val n es) {t : Nat} {D : Nat → Int} {h : Nat} {q : List Nat} (hb : Bf n es t D (h :: q)) :
    Bf n es t (visit (D h + 1) (ins es h) D q).1 (visit (D h + 1) (ins es h) D q).2 ∧ blank n (visit (D h + 1) (ins es h) D q).1 + (visit (D h + 1) (ins es h) D q).2.length = blank n D + q.length := by
  have hh := hb.ge h (hb.qn h (List.mem_cons_self ..))
  have V := visit_holds (n := n) (show 0 ≤ D h + 1 by omega) (ins es h) D q (fun x hx => ins_lt hv hx)
  generalize visit (D h + 1) (ins es h) D q = r at V
  have hD : ∀ x, r.1 x ≠ -1 → D x = -1 → r.1 x = D h + 1 ∧ (x, h) ∈ es := fun x h1 h2 => ⟨(V.new x h2 h1).1, mem_ins.1 (V.new x h2 h1).2.1⟩
  have hho : r.1 h = D h := V.old h (by omega)
  refine ⟨⟨?_, ?_, ?_, ?_, ?_, ?_, ?_⟩, V.count⟩
  · intro x hx
    by_cases e : D x = -1
    · exact (hv _ (hD x hx e).2).1
    · exact hb.lt x e
  · intro x hx
    by_cases e : D x = -1
    · rw [(hD x hx e).1]; omega
    · rw [V.old x e]; exact hb.ge x e
  · rw [V.old t (by rw [hb.t0]; decide), hb.t0]
  · intro x hx
    by_cases e : D x = -1
    · have := (hD x (by rw [hx]; decide) e).1; omega
    · rw [V.old x e] at hx; exact hb.zero x hx
  · intro x hx
    by_cases e : D x = -1
    · obtain ⟨a, b⟩ := hD x (by omega) e
      exact ⟨h, b, by rw [hho]; omega, by rw [hho, a]; omega⟩
    · rw [V.old x e] at hx ⊢
      obtain ⟨k, k1, k2, k3⟩ := hb.next x hx
      have := V.old k (by omega)
      exact ⟨k, k1, by omega, by omega⟩
  · intro x hx
    rcases V.from_ x hx with h1 | ⟨_, h2⟩
    · rw [V.old x (hb.qn x (List.mem_cons_of_mem _ h1))]; exact hb.qn x (List.mem_cons_of_mem _ h1)
    · exact h2
  · intro y hy hq x hx
    by_cases e : D y = -1
    · exact absurd (V.new y e hy).2.2 hq
    · by_cases e2 : y = h
      · subst e2; exact V.all x (mem_ins.2 hx)
      · have : D x ≠ -1 := hb.done y e (fun hm => by rcases List.mem_cons.1 hm with a | a; exact e2 a; exact hq (V.more y a)) x hx
        rw [V.old x this]; exact this
theorem bfs_holds {n : Nat} {es : Es} (hv : Val n es) {t : Nat} : ∀ (f : Nat) (D : Nat → Int) (q : List Nat), Bf n es t D q → blank n D + q.length ≤ f → Bf n es t (bfs (ins es) f D q) []
  | 0, D, [], hb, hf => hb
  | 0, D, x :: q, hb, hf => by rw [List.length_cons] at hf; omega
  | f + 1, D, [], hb, hf => hb
  | f + 1, D, h :: q, hb, hf => by
    obtain ⟨h1, h2⟩ := bf_step hv hb
    rw [List.length_cons] at hf
    exact bfs_holds hv f _ _ h1 (by omega)
theorem dist_bf {n : Nat} {es : Es} (hv : Val n es) {t : Nat} (ht : t < n) : Bf n es t (dist n es t) [] :=
  bfs_holds hv n _ _ (bf_start ht) (by have := blank_start ht; rw [List.length_singleton]; omega)
theorem Bf.reach {n : Nat} {es : Es} {t : Nat} {D : Nat → Int} {q : List Nat} (hb : Bf n es t D q) : ∀ (k : Nat) (x : Nat), D x ≠ -1 → (D x).toNat ≤ k → Reach es x t
  | 0, x, hx, hk => by
    have := hb.ge x hx
    rw [hb.zero x (by omega)]; exact .refl _
  | k + 1, x, hx, hk => by
    have h0 := hb.ge x hx
    by_cases e : D x = 0
    · rw [hb.zero x e]; exact .refl _
    · obtain ⟨h, h1, h2, h3⟩ := hb.next x (by omega)
      exact .step h1 (hb.reach k h (by omega) (by omega))
theorem Bf.reached {n : Nat} {es : Es} {t : Nat} {D : Nat → Int} (hb : Bf n es t D []) {x y : Nat} (h : Reach es x y) (hy : D y ≠ -1) : D x ≠ -1 := by
  induction h with
  | refl _ => exact hy
  | step a _ ih => exact hb.done _ (ih hy) (fun h => nomatch h) _ a
theorem Bf.iff {n : Nat} {es : Es} {t : Nat} {D : Nat → Int} (hb : Bf n es t D []) (x : Nat) : D x ≠ -1 ↔ Reach es x t :=
  ⟨fun h => hb.reach _ x h (Nat.le_refl _), fun h => hb.reached h (by rw [hb.t0]; decide)⟩

/-! the nearest of some threads; a chain; a cycle; the least cycle -/
def nearer (D : Nat → Int) (b : Int) (x : Nat) : Int :=
  if D x = -1 then b else if b = -1 then x else if D x < D b.toNat then x else if D x = D b.toNat ∧ (x : Int) < b then x else b
def near (D : Nat → Int) (l : List Nat) : Int := l.foldl (nearer D) (-1)
def foll (D : Nat → Int) (hs : Nat → List Nat) : Nat → Nat → List Nat
  | 0, x => [x]
  | f + 1, x => if 0 < D x then x :: foll D hs f (near D (hs x)).toNat else [x]
def chain (D : Nat → Int) (hs : Nat → List Nat) (x : Nat) : List Nat := foll D hs (D x).toNat x
def cyc (n : Nat) (es : Es) (t : Nat) : List Nat :=
  if near (dist n es t) (outs es t) = -1 then [] else t :: chain (dist n es t) (outs es) (near (dist n es t) (outs es t)).toNat
def least (n : Nat) (es : Es) : Nat → List Nat
  | 0 => []
  | t + 1 => if 0 < (cyc n es t).length ∧ ((least n es t).length = 0 ∨ (cyc n es t).length < (least n es t).length) then cyc n es t else least n es t
/-- What a nearest thread so far is. -/
structure Nr (D : Nat → Int) (l : List Nat) (b : Int) : Prop where
  none_ : b = -1 → ∀ x ∈ l, D x = -1
  some_ : b ≠ -1 → 0 ≤ b ∧ b.toNat ∈ l ∧ D b.toNat ≠ -1 ∧ ∀ x ∈ l, D x ≠ -1 → D b.toNat ≤ D x
theorem nearer_holds {D : Nat → Int} {l : List Nat} {b : Int} (h : Nr D l b) (x : Nat) : Nr D (l ++ [x]) (nearer D b x) := by
  unfold nearer
  by_cases h1 : D x = -1
  · rw [if_pos h1]
    refine ⟨fun e y hy => ?_, fun e => ?_⟩
    · rcases List.mem_append.1 hy with hy | hy
      · exact h.none_ e y hy
      · rw [List.mem_singleton] at hy; subst hy; exact h1
    · obtain ⟨a, b', c, d⟩ := h.some_ e
      refine ⟨a, List.mem_append_left _ b', c, fun y hy hn => ?_⟩
      rcases List.mem_append.1 hy with hy | hy
      · exact d y hy hn
      · rw [List.mem_singleton] at hy; subst hy; exact absurd h1 hn
  · rw [if_neg h1]
    have new : (∀ y ∈ l, D y ≠ -1 → D x ≤ D y) → Nr D (l ++ [x]) (x : Int) := fun hle =>
      ⟨fun e => absurd e (by omega), fun _ => ⟨by omega, List.mem_append_right _ (List.mem_singleton.2 (by simp)), by simpa using h1, fun y hy hn => by
        rcases List.mem_append.1 hy with hy | hy
        · simpa using hle y hy hn
        · rw [List.mem_singleton] at hy; subst hy; simp⟩⟩
    by_cases h2 : b = -1
    · rw [if_pos h2]; exact new fun y hy hn => absurd (h.none_ h2 y hy) hn
    · rw [if_neg h2]
      obtain ⟨a, b', c, d⟩ := h.some_ h2
      by_cases h3 : D x < D b.toNat
      · rw [if_pos h3]; exact new fun y hy hn => by have := d y hy hn; omega
      · rw [if_neg h3]
        by_cases h4 : D x = D b.toNat ∧ (x : Int) < b
        · rw [if_pos h4]; exact new fun y hy hn => by have := d y hy hn; omega
        · rw [if_neg h4]
          refine ⟨fun e => absurd e h2, fun _ => ⟨a, List.mem_append_left _ b', c, fun y hy hn => ?_⟩⟩
          rcases List.mem_append.1 hy with hy | hy
          · exact d y hy hn
          · rw [List.mem_singleton] at hy; subst hy; omega
theorem near_aux (D : Nat → Int) : ∀ (l m : List Nat) (b : Int), Nr D m b → Nr D (m ++ l) (l.foldl (nearer D) b)
  | [], m, b, h => by rw [List.append_nil]; exact h
  | x :: r, m, b, h => by
    rw [List.foldl_cons]
    have := near_aux D r (m ++ [x]) (nearer D b x) (nearer_holds h x)
    rw [List.append_assoc] at this; exact this
theorem near_holds (D : Nat → Int) (l : List Nat) : Nr D l (near D l) := by
  have := near_aux D l [] (-1) ⟨fun _ _ h => (nomatch h), fun h => absurd rfl h⟩
  exact this
/-- From a thread with a distance the nearest holder is nearer. -/
theorem Bf.near_next {n : Nat} {es : Es} {t : Nat} {D : Nat → Int} {q : List Nat} (hb : Bf n es t D q) {x : Nat} (hx : 0 < D x) :
    0 ≤ near D (outs es x) ∧ (x, (near D (outs es x)).toNat) ∈ es ∧ 0 ≤ D (near D (outs es x)).toNat ∧ D (near D (outs es x)).toNat < D x := by
  obtain ⟨h, h1, h2, h3⟩ := hb.next x hx
  have N := near_holds D (outs es x)
  have e : near D (outs es x) ≠ -1 := fun e => by have := N.none_ e h (mem_outs.2 h1); omega
  obtain ⟨a, b, c, d⟩ := N.some_ e
  have := d h (mem_outs.2 h1) (by omega)
  exact ⟨a, mem_outs.1 b, hb.ge _ c, by omega⟩
theorem foll_ne (D : Nat → Int) (hs : Nat → List Nat) : ∀ f x, foll D hs f x ≠ []
  | 0, x => by simp [foll]
  | f + 1, x => by unfold foll; split <;> simp
theorem Bf.foll_all {n : Nat} {es : Es} {t : Nat} {D : Nat → Int} {q : List Nat} (hb : Bf n es t D q) : ∀ (f x : Nat), D x ≠ -1 → (D x).toNat ≤ f →
    (foll D (outs es) f x).getLast? = some t ∧ (foll D (outs es) f x)[0]? = some x ∧ ∀ y ∈ foll D (outs es) f x, y < n ∧ Reach es x y ∧ Reach es y t
  | 0, x, hx, hf => by
    have e : D x = 0 := by have := hb.ge x hx; omega
    have hxt := hb.zero x e
    subst hxt
    refine ⟨rfl, rfl, fun y hy => ?_⟩
    rw [foll, List.mem_singleton] at hy; subst hy
    exact ⟨hb.lt _ hx, .refl _, .refl _⟩
  | f + 1, x, hx, hf => by
    have h0 := hb.ge x hx
    rw [foll]
    by_cases e : 0 < D x
    · rw [if_pos e]
      obtain ⟨a, b, c, d⟩ := hb.near_next e
      obtain ⟨i1, i2, i3⟩ := hb.foll_all f (near D (outs es x)).toNat (by omega) (by omega)
      refine ⟨?_, rfl, fun y hy => ?_⟩
      · rw [List.getLast?_cons, i1]; rfl
      · rcases List.mem_cons.1 hy with rfl | hy
        · exact ⟨hb.lt _ hx, .refl _, hb.reach _ _ hx (Nat.le_refl _)⟩
        · obtain ⟨j1, j2, j3⟩ := i3 y hy
          exact ⟨j1, .step b j2, j3⟩
    · rw [if_neg e]
      have hxt := hb.zero x (by omega)
      subst hxt
      refine ⟨rfl, rfl, fun y hy => ?_⟩
      rw [List.mem_singleton] at hy; subst hy
      exact ⟨hb.lt _ hx, .refl _, .refl _⟩
theorem foll_enough {n : Nat} {es : Es} {t : Nat} {D : Nat → Int} {q : List Nat} (hb : Bf n es t D q) : ∀ (f x : Nat), D x ≠ -1 → (D x).toNat ≤ f → foll D (outs es) f x = foll D (outs es) (D x).toNat x
  | 0, x, hx, hf => by rw [show (D x).toNat = 0 from by omega]
  | f + 1, x, hx, hf => by
    have h0 := hb.ge x hx
    by_cases e : 0 < D x
    · obtain ⟨a, b, c, d⟩ := hb.near_next e
      obtain ⟨k, hk⟩ : ∃ k, (D x).toNat = k + 1 := ⟨(D x).toNat - 1, by omega⟩
      rw [hk, foll, if_pos e, foll, if_pos e, foll_enough hb f _ (by omega) (by omega), ← foll_enough hb k _ (by omega) (by omega)]
    · rw [show (D x).toNat = 0 from by omega]; simp [foll, e]
theorem chain_step {n : Nat} {es : Es} {t : Nat} {D : Nat → Int} {q : List Nat} (hb : Bf n es t D q) {x : Nat} (hx : 0 < D x) : chain D (outs es) x = x :: chain D (outs es) (near D (outs es x)).toNat := by
  obtain ⟨a, b, c, d⟩ := hb.near_next hx
  obtain ⟨k, hk⟩ : ∃ k, (D x).toNat = k + 1 := ⟨(D x).toNat - 1, by omega⟩
  unfold chain
  rw [hk, foll, if_pos hx, foll_enough hb k _ (by omega) (by omega)]
theorem chain_end {D : Nat → Int} {hs : Nat → List Nat} {x : Nat} (hx : ¬ 0 < D x) : chain D hs x = [x] := by
  unfold chain
  rw [show (D x).toNat = 0 from by omega]; rfl
theorem cyc_holds {n : Nat} {es : Es} (hv : Val n es) {t : Nat} (ht : t < n) : ∀ y ∈ cyc n es t, y < n ∧ Reach es t y ∧ Reach es y t := by
  intro y hy
  have hb := dist_bf hv ht
  unfold cyc at hy
  by_cases e : near (dist n es t) (outs es t) = -1
  · rw [if_pos e] at hy; exact nomatch hy
  · rw [if_neg e] at hy
    obtain ⟨a, b, c, _⟩ := (near_holds (dist n es t) (outs es t)).some_ e
    rcases List.mem_cons.1 hy with rfl | hy
    · exact ⟨ht, .refl _, .refl _⟩
    · obtain ⟨j1, j2, j3⟩ := (hb.foll_all _ _ c (Nat.le_refl _)).2.2 y hy
      exact ⟨j1, .step (mem_outs.1 b) j2, j3⟩
theorem least_holds {n : Nat} {es : Es} (hv : Val n es) : ∀ k, k ≤ n → ∃ t, (least n es k = [] ∨ t < n) ∧ ∀ y ∈ least n es k, y < n ∧ Reach es t y ∧ Reach es y t
  | 0, _ => ⟨0, .inl rfl, fun y hy => nomatch hy⟩
  | k + 1, hk => by
    rw [least]
    by_cases e : 0 < (cyc n es k).length ∧ ((least n es k).length = 0 ∨ (cyc n es k).length < (least n es k).length)
    · rw [if_pos e]; exact ⟨k, .inr (by omega), cyc_holds hv (by omega)⟩
    · rw [if_neg e]; exact least_holds hv k (by omega)

/-! the source of a reason -/
def srcer (b D : Nat → Int) (s : Int) (x : Nat) : Int :=
  if D x = -1 then s else if s = -1 then x else if b x > b s.toNat then x else if b x = b s.toNat ∧ D x < D s.toNat then x else s
def srcAt (b D : Nat → Int) : Nat → Int
  | 0 => -1
  | k + 1 => srcer b D (srcAt b D k) k
theorem srcAt_holds (b D : Nat → Int) : ∀ k, (srcAt b D k = -1 → ∀ x, x < k → D x = -1) ∧ (srcAt b D k ≠ -1 → 0 ≤ srcAt b D k ∧ (srcAt b D k).toNat < k ∧ D (srcAt b D k).toNat ≠ -1 ∧ ∀ x, x < k → D x ≠ -1 → b x ≤ b (srcAt b D k).toNat)
  | 0 => ⟨fun _ x hx => absurd hx (Nat.not_lt_zero _), fun h => absurd rfl h⟩
  | k + 1 => by
    obtain ⟨i1, i2⟩ := srcAt_holds b D k
    rw [srcAt]
    generalize srcAt b D k = s at i1 i2
    unfold srcer
    have lt1 : ∀ x, x < k + 1 → x < k ∨ x = k := fun x hx => by omega
    by_cases h1 : D k = -1
    · rw [if_pos h1]
      refine ⟨fun e x hx => ?_, fun e => ?_⟩
      · rcases lt1 x hx with hx | rfl
        · exact i1 e x hx
        · exact h1
      · obtain ⟨a, b', c, d⟩ := i2 e
        refine ⟨a, by omega, c, fun x hx hn => ?_⟩
        rcases lt1 x hx with hx | rfl
        · exact d x hx hn
        · exact absurd h1 hn
    · rw [if_neg h1]
      have new : (∀ y, y < k → D y ≠ -1 → b y ≤ b k) → ((k : Int) = -1 → ∀ x, x < k + 1 → D x = -1) ∧ ((k : Int) ≠ -1 → 0 ≤ (k : Int) ∧ (k : Int).toNat < k + 1 ∧ D (k : Int).toNat ≠ -1 ∧ ∀ x, x < k + 1 → D x ≠ -1 → b x ≤ b (k : Int).toNat) := fun hle =>
        ⟨fun e => absurd e (by omega), fun _ => ⟨by omega, by omega, by simpa using h1, fun x hx hn => by
          rcases lt1 x hx with hx | rfl
          · simpa using hle x hx hn
          · simp⟩⟩
      by_cases h2 : s = -1
      · rw [if_pos h2]; exact new fun y hy hn => absurd (i1 h2 y hy) hn
      · rw [if_neg h2]
        obtain ⟨a, b', c, d⟩ := i2 h2
        by_cases h3 : b k > b s.toNat
        · rw [if_pos h3]; exact new fun y hy hn => by have := d y hy hn; omega
        · rw [if_neg h3]
          by_cases h4 : b k = b s.toNat ∧ D k < D s.toNat
          · rw [if_pos h4]; exact new fun y hy hn => by have := d y hy hn; omega
          · rw [if_neg h4]
            refine ⟨fun e => absurd e h2, fun _ => ⟨a, by omega, c, fun x hx hn => ?_⟩⟩
            rcases lt1 x hx with hx | rfl
            · exact d x hx hn
            · omega
def reason (n : Nat) (b : Nat → Int) (es : Es) (t : Nat) : List Nat := chain (dist n es t) (outs es) (srcAt b (dist n es t) n).toNat

/-! the effective priorities -/
structure IsEff (n : Nat) (b : Nat → Int) (es : Es) (p : Nat → Int) : Prop where
  ge : ∀ i, i < n → b i ≤ p i
  edge : ∀ e ∈ es, p e.1 ≤ p e.2
  why : ∀ i, i < n → ∃ j, j < n ∧ Reach es j i ∧ p i = b j
theorem IsEff.reach {n : Nat} {b : Nat → Int} {es : Es} {p : Nat → Int} (h : IsEff n b es p) {x y : Nat} (hr : Reach es x y) : p x ≤ p y := by
  induction hr with
  | refl _ => exact Int.le_refl _
  | step a _ ih => exact Int.le_trans (h.edge _ a) ih
theorem IsEff.le {n : Nat} {b : Nat → Int} {es es' : Es} {p p' : Nat → Int} (h : IsEff n b es p) (h' : IsEff n b es' p') (hs : ∀ e ∈ es, e ∈ es') {i : Nat} (hi : i < n) : p i ≤ p' i := by
  obtain ⟨j, j1, j2, j3⟩ := h.why i hi
  rw [j3]
  exact Int.le_trans (h'.ge j j1) (h'.reach (j2.mono hs))
theorem IsEff.eq {n : Nat} {b : Nat → Int} {es : Es} {p p' : Nat → Int} (h : IsEff n b es p) (h' : IsEff n b es p') {i : Nat} (hi : i < n) : p i = p' i :=
  Int.le_antisymm (h.le h' (fun _ a => a) hi) (h'.le h (fun _ a => a) hi)
/-- A reason. -/
theorem reason_holds {n : Nat} {b : Nat → Int} {es : Es} (hv : Val n es) {p : Nat → Int} (hp : IsEff n b es p) {t : Nat} (ht : t < n) :
    (reason n b es t).getLast? = some t ∧ (∃ s, s < n ∧ (reason n b es t)[0]? = some s ∧ b s = p t) ∧ ∀ y ∈ reason n b es t, y < n ∧ p y ≤ p t := by
  have hb := dist_bf hv ht
  obtain ⟨s1, s2⟩ := srcAt_holds b (dist n es t) n
  have hne : srcAt b (dist n es t) n ≠ -1 := fun e => by have := s1 e t ht; rw [hb.t0] at this; omega
  obtain ⟨a, a2, c, d⟩ := s2 hne
  obtain ⟨f1, f2, f3⟩ := hb.foll_all _ _ c (Nat.le_refl _)
  refine ⟨f1, ⟨_, a2, f2, ?_⟩, fun y hy => ⟨(f3 y hy).1, hp.reach (f3 y hy).2.2⟩⟩
  obtain ⟨j, j1, j2, j3⟩ := hp.why t ht
  have h1 := d j j1 ((hb.iff j).2 j2)
  have h2 := Int.le_trans (hp.ge _ a2) (hp.reach ((hb.iff _).1 c))
  omega
end Go.Proofs.Yteikipiigbjgbaa
