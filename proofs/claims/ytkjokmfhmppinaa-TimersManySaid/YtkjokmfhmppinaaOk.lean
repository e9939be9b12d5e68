/- Timers: Next. -/
import Derived.Test.YtkjokmfhmppinaaOj
namespace Go.Proofs.Ytkjokmfhmppinaa
open Go.RowKit Go.Maps
set_option linter.unusedVariables false

def dl (t : Tm) : Int := t.f + t.t
/-- The least deadline of an armed timer. -/
def nx : TS → Option Int
  | [] => none
  | p :: r => if p.2.f = 0 then nx r else match nx r with
    | none => some (dl p.2)
    | some m => some (if dl p.2 < m then dl p.2 else m)
theorem nx_none {l : TS} (h : nx l = none) : ∀ p ∈ l, p.2.f = 0 := by
  induction l with
  | nil => simp
  | cons p r ih =>
    unfold nx at h
    split at h
    · rename_i hp
      intro q hq
      rcases List.mem_cons.1 hq with rfl | hq
      · exact hp
      · exact ih h q hq
    · split at h <;> cases h
theorem nx_some {l : TS} {m : Int} (h : nx l = some m) : (∃ p ∈ l, p.2.f ≠ 0 ∧ dl p.2 = m) ∧ ∀ p ∈ l, p.2.f ≠ 0 → m ≤ dl p.2 := by
  induction l generalizing m with
  | nil => cases h
  | cons p r ih =>
    unfold nx at h
    split at h
    · rename_i hp
      obtain ⟨⟨q, hq, h1, h2⟩, h3⟩ := ih h
      refine ⟨⟨q, by simp [hq], h1, h2⟩, fun q hq hf => ?_⟩
      rcases List.mem_cons.1 hq with rfl | hq
      · exact absurd hp hf
      · exact h3 q hq hf
    · rename_i hp
      split at h
      · rename_i hn
        injection h with h
        refine ⟨⟨p, by simp, hp, h⟩, fun q hq hf => ?_⟩
        rcases List.mem_cons.1 hq with rfl | hq
        · omega
        · exact absurd (nx_none hn q hq) hf
      · rename_i m' hm
        injection h with h
        obtain ⟨⟨q, hq, h1, h2⟩, h3⟩ := ih hm
        by_cases hlt : dl p.2 < m'
        · rw [if_pos hlt] at h
          refine ⟨⟨p, by simp, hp, h⟩, fun q hq hf => ?_⟩
          rcases List.mem_cons.1 hq with rfl | hq
          · omega
          · have := h3 q hq hf; omega
        · rw [if_neg hlt] at h
          refine ⟨⟨q, by simp [hq], h1, by omega⟩, fun q hq hf => ?_⟩
          rcases List.mem_cons.1 hq with rfl | hq
          · omega
          · have := h3 q hq hf; omega
/-- What Next has found in the entries that are no longer to come. -/
def NX (l : TS) (left : Lit → Bool) (v : Int) (s : Bool) : Prop :=
  (s = false ∧ v = 0 ∧ ∀ x t, get l x = some t → left (kl x) = false → t.f = 0) ∨
  (s = true ∧ (∃ x t, get l x = some t ∧ t.f ≠ 0 ∧ dl t = v) ∧ ∀ x t, get l x = some t → left (kl x) = false → t.f ≠ 0 → v ≤ dl t)
theorem NX.start (l : TS) : NX l (Maps.has (Dof l)) 0 false := .inl ⟨rfl, rfl, fun x t h hl => by rw [dhas, h] at hl; cases hl⟩
/-- What Next answers. -/
def nxV (l : TS) : Int := (nx l).getD 0
theorem NX.fin {l : TS} {left : Lit → Bool} {v : Int} {s : Bool} (hs : SortedT l) (h : NX l left v s) (hl : ∀ k, left k = false) : v = nxV l ∧ s = (nx l).isSome := by
  have hm : ∀ p ∈ l, get l p.1 = some p.2 := fun p hp => get_of_mem hs (by exact hp)
  rcases h with ⟨rfl, rfl, h⟩ | ⟨rfl, ⟨x, t, h1, h2, h3⟩, h4⟩
  · have : nx l = none := by
      cases hn : nx l with
      | none => rfl
      | some m =>
        obtain ⟨⟨p, hp, hf, _⟩, _⟩ := nx_some hn
        exact absurd (h _ _ (hm p hp) (hl _)) hf
    simp [nxV, this]
  · cases hn : nx l with
    | none => exact absurd (nx_none hn _ (get_mem h1)) h2
    | some m =>
      obtain ⟨⟨p, hp, hf, hd⟩, hall⟩ := nx_some hn
      have a := hall _ (get_mem h1) h2
      have b := h4 _ _ (hm p hp) (hl _) hf
      simp at a
      simp [nxV, hn]; omega
theorem left_step {left : Lit → Bool} {x y : Int} (h : (left (kl y) && !(kl y).sameKey (kl x)) = false) : left (kl y) = false ∨ y = x := by
  rw [same_kl] at h
  simp at h
  cases hl : left (kl y)
  · exact .inl rfl
  · exact .inr (h hl)
theorem NX.skip {l : TS} {left : Lit → Bool} {v : Int} {s : Bool} {x : Int} {t : Tm} (h : NX l left v s) (hg : get l x = some t) (hf : t.f = 0) : NX l (fun z => left z && !z.sameKey (kl x)) v s := by
  rcases h with ⟨h1, h2, h⟩ | ⟨h1, h2, h⟩
  · refine .inl ⟨h1, h2, fun y u hy hl => ?_⟩
    rcases left_step hl with hl | rfl
    · exact h y u hy hl
    · rw [hg] at hy; cases hy; exact hf
  · refine .inr ⟨h1, h2, fun y u hy hl hu => ?_⟩
    rcases left_step hl with hl | rfl
    · exact h y u hy hl hu
    · rw [hg] at hy; cases hy; exact absurd hf hu
theorem NX.keep {l : TS} {left : Lit → Bool} {v : Int} {x : Int} {t : Tm} (h : NX l left v true) (hg : get l x = some t) (hv : ¬ dl t < v) : NX l (fun z => left z && !z.sameKey (kl x)) v true := by
  rcases h with ⟨h1, _⟩ | ⟨h1, h2, h⟩
  · cases h1
  · refine .inr ⟨h1, h2, fun y u hy hl hu => ?_⟩
    rcases left_step hl with hl | rfl
    · exact h y u hy hl hu
    · rw [hg] at hy; cases hy; omega
theorem NX.take {l : TS} {left : Lit → Bool} {v : Int} {s : Bool} {x : Int} {t : Tm} (h : NX l left v s) (hg : get l x = some t) (hf : t.f ≠ 0) (hv : s = true → dl t < v) : NX l (fun z => left z && !z.sameKey (kl x)) (dl t) true := by
  refine .inr ⟨rfl, ⟨x, t, hg, hf, rfl⟩, fun y u hy hl hu => ?_⟩
  rcases left_step hl with hl | rfl
  · rcases h with ⟨h1, h2, h⟩ | ⟨h1, h2, h⟩
    · exact absurd (h y u hy hl) hu
    · have := h y u hy hl hu; have := hv h1; omega
  · rw [hg] at hy; cases hy; exact Int.le_refl _

theorem get_of_atKey {l : TS} {x : Int} {t : Tm} (h : ∀ z : DataW Unit, (Dof l).atKey (kl x) z = tmD t) : get l x = some t := by
  have a := h (tmD tz)
  have b := h (tmD { tz with o := 1 })
  rw [datk] at a b
  cases hg : get l x with
  | none =>
    rw [hg] at a b
    have := (tmD_inj a).trans (tmD_inj b).symm
    exact absurd (congrArg Tm.o this) (by decide)
  | some u =>
    rw [hg] at a
    exact congrArg some (tmD_inj a)
/-- The step of a loop over the timers. -/
theorem wpList_nextT {ops : Array Oper} {rest : List Oper} {o : Oper} {a : Act} {w : World} {Q : Exit → Act → World → Prop} (hg : o.guard = none) (it : Operand) (hop : o.op = Op.next it false) (b r n : Nat) (l : TS) (left : Lit → Bool) (cnt : Nat)
    (hit : a.eval it = .pointer (some ⟨r, 0, none⟩)) (h : w.ranges Try.prog 3 tmR b r n (Dof l) left cnt)
    (hDone : (∀ k, left k = false) → wpList Try.prog ops Q rest (a.put o.dst (.tuple #[.bool false])) w)
    (hMore : ∀ (x : Int) (t : Tm) (w' : World) (cnt' : Nat), isW x → left (kl x) = true → get l x = some t → w'.ranges Try.prog 3 tmR b r n (Dof l) (fun z => left z && !z.sameKey (kl x)) cnt' → cnt' < cnt → Fr (fun k => k = r) w w' →
      (Instr.entry (.pointer (some ⟨r, 0, none⟩))).run Try.prog w' = .ok (.tuple #[.int .i64 x, tmE t]) w' → wpList Try.prog ops Q rest (a.put o.dst (.tuple #[.bool true, .int .i64 x, tmE t])) w') :
    wpList Try.prog ops Q (o :: rest) a w := by
  refine wpList_next_ranges w hg it hop 3 keyedI tmR (Value.int .i64) tmE (fun key kl hkey => by obtain ⟨x, rfl, _⟩ := Maps.keyOf_int_inv Try.underlying3 hkey; exact ⟨x, rfl⟩) (fun v y hv => by obtain ⟨c, rfl, _⟩ := tmR_inv hv; exact ⟨c, rfl⟩)
    b r n (Dof l) left cnt hit h (fun _ hl => hDone hl) (fun x c kl' y w' cnt' hkey hlk hv hat hrg hlt hgr hsz hen => ?_)
  obtain ⟨x', ex, rfl, hwx⟩ := Maps.keyOf_int_inv Try.underlying3 hkey
  cases ex
  obtain ⟨c', ec, rfl⟩ := tmR_inv hv
  have e := tmE_inj ec
  subst e
  exact hMore x c w' cnt' hwx hlk (get_of_atKey hat) hrg hlt (Fr.grown hgr fun k e => by cases e; rfl) hen
def SpI (l : TS) : Prop := ∀ p ∈ l, spOk p.2.f p.2.i p.2.t = true
theorem SpI.dl {l : TS} (h : SpI l) {x : Int} {t : Tm} (hg : get l x = some t) : (0 ≤ t.f ∧ t.f ≤ MT) ∧ (0 ≤ t.i ∧ t.i ≤ MT) ∧ 0 ≤ t.t ∧ t.t ≤ MT := by
  have := h _ (get_mem hg)
  simp only [spOk, Bool.and_eq_true, isT_iff] at this
  exact ⟨this.1.1, this.1.2, this.2⟩
set_option maxRecDepth 100000 in
theorem next_nilp (W : World) : Calls Try.prog 13 #[.pointer none] W fun e w' => e = .returned (.tuple #[.int .i64 0, .bool false]) ∧ Fr No W w' := by
  go_enter Try.func13, Try.ntmps13
  go_wp2_with (go_at_call 34; refine (ismade_nil _).mono ?_; rintro e w2 ⟨rfl, f2⟩; subst f2)
  go_ret2
  exact ⟨rfl, Fr.refl _ _⟩
end Go.Proofs.Ytkjokmfhmppinaa
