/- Acts that came in; the queue behind adds with all masks set: what ReadyFIFO and ReadyRotates share. -/
import Derived.Test.YtbjpaemldnoinaaYv
import Derived.LoopTactic
import Derived.Deep.MidRow
import Derived.Deep.WholeRow
import Derived.Laws.Tables
namespace Go.Proofs.Ytbjpaemldnoinaa
open Go.RowKit Go.Shelf
set_option linter.unusedVariables false

/-- A call as it came in. -/
structure ActR where
  d : Int
  t : Int
  p : Int
  m : Int
  n : Int
  f : Bool
def actC (x : ActR) : List Value := [.int .u8 x.d, .int .i64 x.t, .int .i64 x.p, .int .i64 x.m, .int .i64 x.n, .bool x.f]
theorem actC_one (x : ActR) : (actC x).toArray.all (·.oneCell') = true := by simp [actC, Value.oneCell']
def ActsAt (w : World) (b off : Nat) (A : List ActR) : Prop := b < w.heap.size ∧ ∀ i x, A[i]? = some x → w.rangeAt b (off + i * 6) (actC x)
theorem ActsAt.below {w w2 : World} {b off : Nat} {A : List ActR} (h : ActsAt w b off A) (hb : Below w.heap.size w w2) : ActsAt w2 b off A :=
  ⟨Nat.lt_of_lt_of_le h.1 hb.size, fun i x hx j v hv => by rw [hb.cell (p := ⟨b, _, none⟩) h.1]; exact h.2 i x hx j v hv⟩
/-- How the Acts came in. -/
def ActsIn (w : World) (a : Option Addr) (A : List ActR) : Prop := (∀ x ∈ A, 0 ≤ x.d ∧ x.d < 256) ∧ (A = [] ∨ ∃ b off, a = some ⟨b, off, none⟩ ∧ ActsAt w b off A)
theorem ActsIn.get {w w2 : World} {a : Option Addr} {A : List ActR} {i : Nat} (h : ActsIn w a A) (hb : Below w.heap.size w w2) (hi : i < A.length) : ∃ b off x, a = some ⟨b, off, none⟩ ∧ A[i]? = some x ∧ w2.rangeAt b (off + i * 6) (actC x) ∧ 0 ≤ x.d ∧ x.d < 256 := by
  have hx : A[i]? = some A[i] := List.getElem?_eq_getElem hi
  rcases h.2 with h' | ⟨b, off, rfl, h'⟩
  · rw [h'] at hi; cases hi
  · exact ⟨b, off, _, rfl, hx, (h'.below hb).2 i _ hx, h.1 _ (List.getElem_mem hi)⟩

def M255 (mk : Nat → Nat) : Prop := ∀ t, mk t = 0 ∨ mk t = 255
theorem M255.upd {mk : Nat → Nat} (h : M255 mk) (t m : Nat) (hm : m = 0 ∨ m = 255) : M255 (upd mk t m) := fun x => by
  rw [Proofs.Ytbjpaemldnoinaa.upd]; split
  · exact hm
  · exact h x
theorem M255.add {mk : Nat → Nat} (h : M255 mk) (t p : Int) : M255 (addM mk t p 255) := by
  rw [addM]; split
  · exact h.upd _ _ (.inr rfl)
  · exact h
theorem aw_add {ls : Nat → List Nat} {mk : Nat → Nat} {w W : World} (h : AW ls mk w W) (t p : Int) (f : Bool) : Calls Try.prog 32 #[.pointer (some ⟨w.heap.size, 0, none⟩), .int .i64 t, .int .i64 p, .int .i64 255, .bool f] W fun e W' =>
    e = .returned (.int .i64 (addE mk t p 255)) ∧ AW (addL ls mk t p 255 f) (addM mk t p 255) w W' ∧ W.grownBy W' (some w.heap.size) :=
  (qadd_any h.1 t p 255 f).mono fun e W' ⟨he, hg, hq⟩ => ⟨he, h.own hg hq, hg⟩
theorem AW.few {ls : Nat → List Nat} {mk : Nat → Nat} {w W : World} (h : AW ls mk w W) : (order ls).length ≤ 65536 := by
  obtain ⟨⟨q, h1, h2, rfl⟩, hb⟩ := h
  exact order_len h2
theorem AW.few1 {ls : Nat → List Nat} {mk : Nat → Nat} {w W : World} (h : AW ls mk w W) (p : Nat) : (ls p).length ≤ 256 := by
  obtain ⟨⟨q, h1, h2, rfl⟩, hb⟩ := h
  exact nodup_len 256 _ (h2.r.nodup p) fun x hx => (h2.r.mem p x hx).1
theorem SlN.of_row {w : World} {B n : Nat} {v : Value} {xs : List Nat} (h : w.ownsRow B 3 1 v n (encI xs)) : SlN w v xs := by
  have hl : xs.length = n := by have := h.1; simpa [encI] using this
  subst hl
  have hc := fun g (e : v.ownBlock = some g) => h.cells (g := g) e
  rcases h.2 with ⟨rfl, h0⟩ | ⟨g, cap, cur, rfl, _⟩
  · exact ⟨_, _, by rw [h0], .inl (List.length_eq_zero_iff.1 h0)⟩
  · refine ⟨_, _, rfl, .inr ⟨g, rfl, fun j x hj => ?_⟩⟩
    have := hc g rfl j (.int .i64 (x : Int)) (by simp [encI, hj])
    rw [Addr.add_mid, Nat.zero_add] at this; exact this
theorem news_row (W : World) (t : TypeId) (cs : List Value) : ∀ j u, cs[j]? = some u → (W.alloc (.cells cs.toArray t)).cell? ((⟨W.heap.size, 0, none⟩ : Addr).add j) = some u := fun j u hj => by
  rw [Addr.add_mid, Nat.zero_add, (RowAt.new W t cs.toArray).cell j]; simpa using hj
theorem addL_ok {ls : Nat → List Nat} {mk : Nat → Nat} {t p : Int} {f : Bool} (h : addE mk t p 255 = 0) : addL ls mk t p 255 f = ins ls t.toNat p.toNat f ∧ addM mk t p 255 = upd mk t.toNat 255 ∧ 0 ≤ t ∧ 0 ≤ p := by
  have h1 : (isThr t && isThr p && isMsk 255) = true := by
    cases hb : (isThr t && isThr p && isMsk 255) with
    | true => rfl
    | false => rw [addE, hb] at h; simp at h
  have h2 : mk t.toNat = 0 := by
    rw [addE, if_pos h1] at h
    split at h
    · assumption
    · cases h
  have h3 : addOk mk t p 255 = true := by rw [addOk, h1, h2]; rfl
  simp only [Bool.and_eq_true] at h1
  refine ⟨by rw [addL, if_pos h3], by rw [addM, if_pos h3]; rfl, ((isThr_iff t).1 h1.1.1).1, ((isThr_iff p).1 h1.1.2).1⟩
theorem addL_no {ls : Nat → List Nat} {mk : Nat → Nat} {t p : Int} {f : Bool} (h : addE mk t p 255 ≠ 0) : addL ls mk t p 255 f = ls ∧ addM mk t p 255 = mk := by
  have h3 : ¬ addOk mk t p 255 = true := fun e => h (by
    rw [addOk, Bool.and_eq_true] at e
    rw [addE, if_pos e.1, if_pos (by simpa using e.2)])
  exact ⟨by rw [addL, if_neg h3], by rw [addM, if_neg h3]⟩
theorem addL_other {ls : Nat → List Nat} {mk : Nat → Nat} {t p : Int} {f : Bool} {q : Nat} (h : p ≠ q) : addL ls mk t p 255 f q = ls q := by
  by_cases e : addE mk t p 255 = 0
  · obtain ⟨h1, _, _, h4⟩ := addL_ok (ls := ls) (f := f) e
    rw [h1]; exact ins_other (by omega)
  · rw [(addL_no e).1]
theorem head_at {ls : Nat → List Nat} {t : Nat} {r : List Nat} (ho : order ls = t :: r) : ∃ p b, p < 256 ∧ ls p = t :: b := by
  rcases topN_or ls 256 with h | ⟨p, h⟩
  · rw [order, topN_none h] at ho; cases ho
  · obtain ⟨h1, h2, h3⟩ := topN_some h
    cases hl : ls p with
    | nil => exact absurd hl h2
    | cons a b =>
      rw [order, h3, hl] at ho
      injection ho with h _
      subst h
      exact ⟨p, b, h1, hl⟩
end Go.Proofs.Ytbjpaemldnoinaa
