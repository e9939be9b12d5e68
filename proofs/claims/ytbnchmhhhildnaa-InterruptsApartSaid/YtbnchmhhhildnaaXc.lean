/- Interrupts: a map of numbers by key, with zero where nothing is: counts and threads. -/
import Derived.Test.YtbnchmhhhildnaaXb
import Derived.DeepKeys4
import Derived.WideKeyEntry
namespace Go.Proofs.Ytbnchmhhhildnaa
open Go.RowKit Go.Maps Go.WideMaps Go.ChangeMaps
set_option linter.unusedVariables false

/-- A kind of keys. -/
structure KeyK where
  K : Type
  dec : DecidableEq K
  t : TypeId
  m : TypeId
  e : TypeId
  ek : K → Value
  ok : K → Prop
  inj : ∀ {a b : K}, ek a = ek b → a = b
  law : Keyed Try.prog t
  key : ∀ {a : K}, ok a → ∃ l, keyOf Try.prog t (ek a) = some l
  und : Try.prog.underlying m = some (.map t e)
  zero : ∀ W : World, (zeroValue e).run Try.prog W = .ok (.int .i64 0) W

/-- The entries read so. -/
structure EntZ (κ : KeyK) (es : List MapEntry) (clock : Nat) (f : κ.K → Int) : Prop where
  born : (es.map (·.born)).Nodup
  lt : ∀ x ∈ es, x.born < clock
  keys : (es.map (·.key)).Nodup
  val : ∀ x ∈ es, ∃ k, κ.ok k ∧ x.key = κ.ek k ∧ x.val = .int .i64 (f k)
  abs : ∀ k, κ.ok k → (∀ x ∈ es, x.key ≠ κ.ek k) → f k = 0
/-- Block b is a map that reads so. -/
def GZ (κ : KeyK) (W : World) (b : Nat) (f : κ.K → Int) : Prop := ∃ es clock, W.heap[b]? = some (.map es clock) ∧ EntZ κ es.toList clock f
theorem GZ.lt {κ : KeyK} {W : World} {b : Nat} {f : κ.K → Int} (h : GZ κ W b f) : b < W.heap.size := by obtain ⟨es, c, h, _⟩ := h; exact (Array.getElem?_eq_some_iff.1 h).1
theorem GZ.fr {κ : KeyK} {W W' : World} {b : Nat} {f : κ.K → Int} {S : Nat → Prop} (h : GZ κ W b f) (hf : Fr S W W') (hS : ¬ S b) : GZ κ W' b f := by
  have hl := h.lt
  obtain ⟨es, c, h1, h2⟩ := h
  exact ⟨es, c, (hf.block b hl hS).trans h1, h2⟩
theorem GZ.new (κ : KeyK) (W : World) : GZ κ (W.alloc (.map #[] 0)) W.heap.size (fun _ => 0) := ⟨#[], 0, heap_alloc_new W _, by simp, by simp, by simp, by simp, fun _ _ _ => rfl⟩
open Classical in
/-- f, but v at k. -/
noncomputable def upd {α : Type} (f : α → Int) (k : α) (v : Int) : α → Int := fun x => if x = k then v else f x
theorem upd_same {α : Type} (f : α → Int) (k : α) (v : Int) : upd f k v k = v := by simp [upd]
theorem upd_other {α : Type} {f : α → Int} {k x : α} {v : Int} (h : x ≠ k) : upd f k v x = f x := by simp [upd, h]
theorem EntZ.find {κ : KeyK} {es : List MapEntry} {c : Nat} {f : κ.K → Int} (h : EntZ κ es c f) (W : World) {k : κ.K} (hk : κ.ok k) :
    ((Instr.findKey κ.t (κ.ek k) es).run Try.prog W = .ok none W ∧ (∀ x ∈ es, x.key ≠ κ.ek k) ∧ f k = 0) ∨ ∃ j x, (Instr.findKey κ.t (κ.ek k) es).run Try.prog W = .ok (some (j, x.val)) W ∧ es[j]? = some x ∧ x.key = κ.ek k ∧ x.val = .int .i64 (f k) := by
  obtain ⟨l, hl⟩ := κ.key hk
  rcases κ.law.find W hl es (fun x hx => by obtain ⟨k', h1, h2, _⟩ := h.val x hx; rw [h2]; exact κ.key h1) with ⟨h1, h2⟩ | ⟨j, x, h1, h2, h3⟩
  · exact .inl ⟨h1, h2, h.abs k hk h2⟩
  · obtain ⟨k', k1, k2, k3⟩ := h.val x (List.mem_of_getElem? h2)
    have : k' = k := κ.inj (k2.symm.trans h3)
    subst this
    exact .inr ⟨j, x, h1, h2, h3, k3⟩
theorem EntZ.push {κ : KeyK} {es : List MapEntry} {c : Nat} {f : κ.K → Int} (h : EntZ κ es c f) {k : κ.K} (hk : κ.ok k) (hn : ∀ x ∈ es, x.key ≠ κ.ek k) (v : Int) : EntZ κ (es ++ [⟨κ.ek k, .int .i64 v, c⟩]) (c + 1) (upd f k v) := by
  refine ⟨?_, fun x hx => ?_, ?_, fun x hx => ?_, fun k' hk' hx => ?_⟩
  · rw [List.map_append]
    refine List.nodup_append.2 ⟨h.born, by simp, fun a ha b hb e => ?_⟩
    simp at hb
    obtain ⟨x, hx, rfl⟩ := List.mem_map.1 ha
    have := h.lt x hx
    omega
  · rcases List.mem_append.1 hx with hx | hx
    · exact Nat.lt_succ_of_lt (h.lt x hx)
    · simp at hx; subst hx; exact Nat.lt_succ_self _
  · rw [List.map_append]
    refine List.nodup_append.2 ⟨h.keys, by simp, fun a ha b hb e => ?_⟩
    simp at hb
    obtain ⟨x, hx, rfl⟩ := List.mem_map.1 ha
    exact hn x hx (e.trans hb)
  · rcases List.mem_append.1 hx with hx | hx
    · obtain ⟨k', h1, h2, h3⟩ := h.val x hx
      refine ⟨k', h1, h2, ?_⟩
      rw [upd_other (fun e => hn x hx (by rw [h2, e])), h3]
    · simp at hx; subst hx
      exact ⟨k, hk, rfl, by rw [upd_same]⟩
  · by_cases e : k' = k
    · subst e
      exact absurd rfl (hx _ (by simp : (⟨κ.ek k', .int .i64 v, c⟩ : MapEntry) ∈ _))
    · rw [upd_other e]
      exact h.abs k' hk' fun x hx' => hx x (by simp [hx'])
theorem nodup_idx {α β : Type} {g : α → β} {es : List α} (hn : (es.map g).Nodup) {i j : Nat} {x y : α} (hi : es[i]? = some x) (hj : es[j]? = some y) (he : g x = g y) : i = j := by
  have h1 : (es.map g)[i]? = some (g x) := by rw [List.getElem?_map, hi]; rfl
  have h2 : (es.map g)[j]? = some (g y) := by rw [List.getElem?_map, hj]; rfl
  exact (List.getElem?_inj (List.getElem?_eq_some_iff.1 h1).1 hn).1 (by rw [h1, h2, he])
theorem EntZ.set {κ : KeyK} {es : List MapEntry} {c : Nat} {f : κ.K → Int} (h : EntZ κ es c f) {k : κ.K} (hk : κ.ok k) {j : Nat} {x : MapEntry} (hj : es[j]? = some x) (hx : x.key = κ.ek k) (v : Int) : EntZ κ (es.set j ⟨κ.ek k, .int .i64 v, x.born⟩) c (upd f k v) := by
  have hjl := (List.getElem?_eq_some_iff.1 hj).1
  have hmem : ∀ y ∈ es.set j ⟨κ.ek k, .int .i64 v, x.born⟩, y = ⟨κ.ek k, .int .i64 v, x.born⟩ ∨ (y ∈ es ∧ y.key ≠ κ.ek k) := fun y hy => by
    obtain ⟨i, hi⟩ := List.getElem?_of_mem hy
    by_cases e : i = j
    · subst e
      rw [List.getElem?_set_self hjl] at hi
      cases hi; exact .inl rfl
    · rw [List.getElem?_set_ne (fun e2 => e e2.symm)] at hi
      exact .inr ⟨List.mem_of_getElem? hi, fun e2 => e (nodup_idx h.keys hi hj (e2.trans hx.symm))⟩
  refine ⟨?_, fun y hy => ?_, ?_, fun y hy => ?_, fun k' hk' hy => ?_⟩
  · have : (es.set j ⟨κ.ek k, .int .i64 v, x.born⟩).map (·.born) = es.map (·.born) := by
      refine List.ext_getElem? fun i => ?_
      rw [List.map_set]
      by_cases e : j = i
      · subst e
        rw [List.getElem?_set_self (by simpa using hjl), List.getElem?_map, hj]; rfl
      · rw [List.getElem?_set_ne e]
    rw [this]; exact h.born
  · rcases hmem y hy with rfl | ⟨h1, _⟩
    · exact h.lt x (List.mem_of_getElem? hj)
    · exact h.lt y h1
  · have : (es.set j ⟨κ.ek k, .int .i64 v, x.born⟩).map (·.key) = es.map (·.key) := by
      refine List.ext_getElem? fun i => ?_
      rw [List.map_set]
      by_cases e : j = i
      · subst e
        rw [List.getElem?_set_self (by simpa using hjl), List.getElem?_map, hj]; simp [hx]
      · rw [List.getElem?_set_ne e]
    rw [this]; exact h.keys
  · rcases hmem y hy with rfl | ⟨h1, h2⟩
    · exact ⟨k, hk, rfl, by rw [upd_same]⟩
    · obtain ⟨k', k1, k2, k3⟩ := h.val y h1
      exact ⟨k', k1, k2, by rw [upd_other (fun e => h2 (by rw [k2, e])), k3]⟩
  · by_cases e : k' = k
    · subst e
      exact absurd rfl (hy _ (List.mem_of_getElem? (List.getElem?_set_self hjl)))
    · rw [upd_other e]
      refine h.abs k' hk' fun y h1 e2 => ?_
      obtain ⟨i, hi⟩ := List.getElem?_of_mem h1
      by_cases ei : i = j
      · subst ei
        rw [hj] at hi; cases hi
        exact e (κ.inj (e2.symm.trans hx))
      · exact hy y (List.mem_of_getElem? (i := i) (by rw [List.getElem?_set_ne (fun q => ei q.symm)]; exact hi)) e2
theorem EntZ.erase {κ : KeyK} {es : List MapEntry} {c : Nat} {f : κ.K → Int} (h : EntZ κ es c f) {k : κ.K} {j : Nat} {x : MapEntry} (hj : es[j]? = some x) (hx : x.key = κ.ek k) : EntZ κ (es.eraseIdx j) c (upd f k 0) := by
  have hsub : (es.eraseIdx j).Sublist es := List.eraseIdx_sublist _ _
  have hne : ∀ y ∈ es.eraseIdx j, y.key ≠ κ.ek k := fun y hy e => by
    obtain ⟨i, hi⟩ := List.getElem?_of_mem hy
    rw [List.getElem?_eraseIdx] at hi
    split at hi
    · have := nodup_idx h.keys hi hj (e.trans hx.symm); omega
    · have := nodup_idx h.keys hi hj (e.trans hx.symm); omega
  refine ⟨h.born.sublist (hsub.map _), fun y hy => h.lt y (hsub.subset hy), h.keys.sublist (hsub.map _), fun y hy => ?_, fun k' hk' hy => ?_⟩
  · obtain ⟨k', k1, k2, k3⟩ := h.val y (hsub.subset hy)
    exact ⟨k', k1, k2, by rw [upd_other (fun e => hne y hy (by rw [k2, e])), k3]⟩
  · by_cases e : k' = k
    · subst e; exact upd_same _ _ _
    · rw [upd_other e]
      refine h.abs k' hk' fun y h1 e2 => ?_
      obtain ⟨i, hi⟩ := List.getElem?_of_mem h1
      by_cases ei : i = j
      · subst ei
        rw [hj] at hi; cases hi
        exact e (κ.inj (e2.symm.trans hx))
      · refine hy y ?_ e2
        by_cases hij : i < j
        · exact List.mem_of_getElem? (i := i) (by rw [List.getElem?_eraseIdx, if_pos hij]; exact hi)
        · exact List.mem_of_getElem? (i := i - 1) (by rw [List.getElem?_eraseIdx, if_neg (by omega), show i - 1 + 1 = i by omega]; exact hi)
theorem upd_id {α : Type} {f : α → Int} {k : α} {v : Int} (h : f k = v) : upd f k v = f := by
  funext x; by_cases e : x = k
  · subst e; rw [upd_same, h]
  · rw [upd_other e]
theorem GZ.look {κ : KeyK} {W : World} {b : Nat} {f : κ.K → Int} (h : GZ κ W b f) {k : κ.K} (hk : κ.ok k) : (Instr.lookup κ.m (.map (some b)) (κ.ek k) false).run Try.prog W = .ok (.int .i64 (f k)) W := by
  obtain ⟨es, c, hb, he⟩ := h
  obtain ⟨l, hl⟩ := κ.key hk
  rcases he.find W hk with ⟨h1, h2, h3⟩ | ⟨j, x, h1, h2, h3, h4⟩
  · rw [h3]
    simp [Instr.lookup, run_underlying κ.und, MapKept.run_getObj_map hb, κ.law.check W _ hl, h1, κ.zero W, Result.andThen]
  · rw [← h4]
    simp [Instr.lookup, run_underlying κ.und, MapKept.run_getObj_map hb, κ.law.check W _ hl, h1, Result.andThen]
theorem fr_setBlock {W : World} {b : Nat} (o : Obj) : Fr (fun k => k = b) W (setBlock W b o) :=
  ⟨rfl, rfl, rfl, by simp [setBlock], fun k hk1 hk2 => by simp [setBlock, Array.getElem?_setIfInBounds]; intro e; exact absurd e.symm hk2⟩
theorem modify_set {α : Type} (g : α → α) : ∀ (l : List α) (j : Nat) (x : α), l[j]? = some x → l.modify j g = l.set j (g x)
  | [], _, _, h => by simp at h
  | b :: r, 0, a, h => by simp at h; subst h; rfl
  | b :: r, j + 1, a, h => by simp at h; simp [List.modify_succ_cons, modify_set g r j a h]
theorem GZ.put {κ : KeyK} {W : World} {b : Nat} {f : κ.K → Int} (h : GZ κ W b f) {k : κ.K} (hk : κ.ok k) (v : Int) :
    ∃ W', (Instr.mapUpdate κ.m (.map (some b)) (κ.ek k) (.int .i64 v)).run Try.prog W = .ok () W' ∧ GZ κ W' b (upd f k v) ∧ Fr (fun k => k = b) W W' := by
  obtain ⟨es, c, hb, he⟩ := h
  obtain ⟨l, hl⟩ := κ.key hk
  rcases he.find W hk with ⟨h1, h2, h3⟩ | ⟨j, x, h1, h2, h3, h4⟩
  · refine ⟨setBlock W b (.map (es.push ⟨κ.ek k, .int .i64 v, c⟩) (c + 1)), ?_, ⟨_, _, heap_setBlock_same hb _, ?_⟩, fr_setBlock _⟩
    · simp [Instr.mapUpdate, run_underlying κ.und, MapKept.run_getObj_map hb, κ.law.check W false hl, h1, MapKept.run_setObj_map _ hb, Result.andThen, setBlock]
    · rw [Array.toList_push]; exact he.push hk h2 v
  · have hj : es[j]? = some x := by simpa using h2
    refine ⟨setBlock W b (.map (es.modify j fun e => { e with key := κ.ek k, val := .int .i64 v }) c), ?_, ⟨_, _, heap_setBlock_same hb _, ?_⟩, fr_setBlock _⟩
    · simp [Instr.mapUpdate, run_underlying κ.und, MapKept.run_getObj_map hb, κ.law.check W false hl, h1, hj, h3, κ.law.stays W hl, MapKept.run_setObj_map _ hb, Result.andThen, setBlock]
    · rw [Array.toList_modify, modify_set _ _ _ _ h2]
      exact he.set hk h2 h3 v
theorem GZ.drop {κ : KeyK} {W : World} {b : Nat} {f : κ.K → Int} (h : GZ κ W b f) {k : κ.K} (hk : κ.ok k) (ty : TypeId) :
    ∃ W', (Builtin.delete_ #[κ.m, κ.t] ty #[.map (some b), κ.ek k]).run Try.prog W = .ok (.tuple #[]) W' ∧ GZ κ W' b (upd f k 0) ∧ Fr (fun k => k = b) W W' := by
  obtain ⟨es, c, hb, he⟩ := h
  obtain ⟨l, hl⟩ := κ.key hk
  rcases he.find W hk with ⟨h1, h2, h3⟩ | ⟨j, x, h1, h2, h3, h4⟩
  · refine ⟨setBlock W b (.map es c), ?_, ⟨es, c, heap_setBlock_same hb _, by rw [upd_id h3]; exact he⟩, fr_setBlock _⟩
    simp [Builtin.delete_, run_underlying κ.und, MapKept.run_getObj_map hb, κ.law.check W _ hl, h1, MapKept.run_setObj_map _ hb, Result.andThen, setBlock]
  · refine ⟨setBlock W b (.map (es.eraseIdxIfInBounds j) c), ?_, ⟨_, _, heap_setBlock_same hb _, ?_⟩, fr_setBlock _⟩
    · simp [Builtin.delete_, run_underlying κ.und, MapKept.run_getObj_map hb, κ.law.check W _ hl, h1, MapKept.run_setObj_map _ hb, Result.andThen, setBlock]
    · have : (es.eraseIdxIfInBounds j).toList = es.toList.eraseIdx j := by simp
      rw [this]
      exact he.erase h2 h3
/-- An entry is made (or found) for a key, and its number is stored: 'm[k]++'. -/
theorem GZ.entry {κ : KeyK} {W : World} {b : Nat} {f : κ.K → Int} (h : GZ κ W b f) {k : κ.K} (hk : κ.ok k) :
    ∃ (st : Nat) (W1 : World), (Instr.mapEntry κ.m (.map (some b)) (κ.ek k)).run Try.prog W = .ok (.tuple #[.int .i64 (f k), goInt st]) W1 ∧ GZ κ W1 b f ∧ Fr (fun k => k = b) W W1 ∧
      ∀ (W2 : World) (v : Int), W2.heap[b]? = W1.heap[b]? → ∃ W3, (Instr.entryStore κ.m (.map (some b)) (goInt st) (.int .i64 v)).run Try.prog W2 = .ok () W3 ∧ GZ κ W3 b (upd f k v) ∧ Fr (fun k => k = b) W2 W3 := by
  obtain ⟨es, c, hb, he⟩ := h
  obtain ⟨l, hl⟩ := κ.key hk
  have fin : ∀ (fs : Array MapEntry) (cl j : Nat) (x : MapEntry), EntZ κ fs.toList cl f → fs.toList[j]? = some x → x.key = κ.ek k → ∀ (W2 : World) (v : Int), W2.heap[b]? = some (.map fs cl) → ∃ W3, (Instr.entryStore κ.m (.map (some b)) (goInt x.born) (.int .i64 v)).run Try.prog W2 = .ok () W3 ∧ GZ κ W3 b (upd f k v) ∧ Fr (fun k => k = b) W2 W3 := fun fs cl j x hE hx hxk W2 v hw2 => by
    have hidx : fs.findIdx? (fun e => ((e.born : Nat) : Int) == ((x.born : Nat) : Int)) = some j := by
      rw [WideElems.findIdx_arr]
      exact WideElems.findIdx_born hE.born hx
    refine ⟨setBlock W2 b (.map (fs.modify j fun e => { e with val := .int .i64 v }) cl), ?_, ⟨_, _, heap_setBlock_same hw2 _, ?_⟩, fr_setBlock _⟩
    · simp [Instr.entryStore, MapKept.run_getObj_map hw2, asInt, asIntOf, goInt, hidx, MapKept.run_setObj_map _ hw2, Result.andThen, setBlock]
    · rw [Array.toList_modify, modify_set _ _ _ _ hx]
      have := hE.set hk hx hxk v
      rw [← hxk] at this
      exact this
  rcases he.find W hk with ⟨h1, h2, h3⟩ | ⟨j, x, h1, h2, h3, h4⟩
  · have hE : EntZ κ (es.push ⟨κ.ek k, .int .i64 0, c⟩).toList (c + 1) f := by
      have := he.push hk h2 0
      rw [upd_id h3] at this
      rw [Array.toList_push]; exact this
    refine ⟨c, setBlock W b (.map (es.push ⟨κ.ek k, .int .i64 0, c⟩) (c + 1)), ?_, ⟨_, _, heap_setBlock_same hb _, hE⟩, fr_setBlock _, fun W2 v hw2 => ?_⟩
    · rw [h3]
      simp [Instr.mapEntry, run_underlying κ.und, MapKept.run_getObj_map hb, κ.law.check W false hl, h1, κ.zero, MapKept.run_setObj_map _ hb, Result.andThen, setBlock]
    · rw [heap_setBlock_same hb _] at hw2
      exact fin _ _ es.toList.length ⟨κ.ek k, .int .i64 0, c⟩ hE (by simp) rfl W2 v hw2
  · have hj : es[j]? = some x := by simpa using h2
    have hsame : es.modify j (fun e => { e with key := κ.ek k }) = es := by
      apply Array.ext'
      rw [Array.toList_modify, modify_set _ _ _ _ h2]
      have : ({ x with key := κ.ek k } : MapEntry) = x := by rw [← h3]
      rw [this]
      exact WideElems.set_self _ _ _ h2
    refine ⟨x.born, setBlock W b (.map es c), ?_, ⟨es, c, heap_setBlock_same hb _, he⟩, fr_setBlock _, fun W2 v hw2 => ?_⟩
    · rw [← h4]
      simp [Instr.mapEntry, run_underlying κ.und, MapKept.run_getObj_map hb, κ.law.check W false hl, h1, hj, h3, κ.law.stays W hl, hsame, MapKept.run_setObj_map _ hb, Result.andThen, setBlock]
    · rw [heap_setBlock_same hb _] at hw2
      exact fin es c j x he h2 h3 W2 v hw2
end Go.Proofs.Ytbnchmhhhildnaa
