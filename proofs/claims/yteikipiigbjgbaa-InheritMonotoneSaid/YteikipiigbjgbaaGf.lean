/- Lists of lists: holders, waiters (what the walks carry). -/
import Derived.Test.YteikipiigbjgbaaGe
import Derived.Deep.AppendLies
import Derived.Deep.RegionLaw
import Derived.Maps.AppendAt
import Derived.Deep.OwnRows
namespace Go.Proofs.Yteikipiigbjgbaa
open Go.RowKit
set_option linter.unusedVariables false

theorem info_int : (Try.prog.info? 3).map (fun i => (i.zero, i.size, i.bytes)) = some (some (.int .i64 0), 1, 8) := by kernel_rfl
theorem info_ints : (Try.prog.info? 22).map (fun i => (i.zero, i.size, i.bytes)) = some (some (.slice none 0 0), 1, 24) := by kernel_rfl
def natI (l : List Nat) : List Int := l.map fun x : Nat => (x : Int)
def encN (l : List Nat) : List Value := l.map fun x : Nat => .int .i64 (x : Int)
theorem encN_len (l : List Nat) : (encN l).length = l.length := by simp [encN]
theorem natI_len (l : List Nat) : (natI l).length = l.length := by simp [natI]
theorem natI_getD (l : List Nat) (i : Nat) : (natI l).getD i 0 = ((l.getD i 0 : Nat) : Int) := by
  simp only [natI, List.getD_eq_getElem?_getD, List.getElem?_map]
  cases l[i]? <;> rfl
/-- Raw edges of a valid graph. -/
def emb (es : Es) : Raw := es.map fun e => ((e.1 : Int), (e.2 : Int))
theorem emb_len (es : Es) : (emb es).length = es.length := by simp [emb]
theorem emb_get {es : Es} {i : Nat} {x : Int × Int} (h : (emb es)[i]? = some x) : ∃ e, es[i]? = some e ∧ x = ((e.1 : Int), (e.2 : Int)) := by
  simp only [emb, List.getElem?_map, Option.map_eq_some_iff] at h
  obtain ⟨e, h1, h2⟩ := h
  exact ⟨e, h1, h2.symm⟩
theorem own_num {W : World} {lo n : Nat} {v : Value} {l : List Nat} (h : W.ownsRow lo 3 1 v n (encN l)) : ∃ a cap, v = .slice a n cap ∧ n = l.length ∧ NumsIn W a (natI l) ∧ ∀ b off, a = some ⟨b, off, none⟩ → lo ≤ b ∧ b < W.heap.size ∧ off = 0 := by
  have hn : n = l.length := by have := h.1; rw [encN_len] at this; omega
  have hc := fun g (e : v.ownBlock = some g) => h.cells (g := g) e
  have hlt := h.lt
  rcases h.2 with ⟨rfl, h0⟩ | ⟨g, cap, cur, rfl, h2, h3, _⟩
  · refine ⟨none, 0, by rw [h0], hn, .inl ?_, fun b off e => nomatch e⟩
    have : l.length = 0 := by omega
    simp [natI, List.length_eq_zero_iff.1 this]
  · refine ⟨some ⟨g, 0, none⟩, cap, rfl, hn, .inr ⟨g, 0, rfl, (Array.getElem?_eq_some_iff.1 h3).1, fun i x hx => ?_⟩, fun b off e => ?_⟩
    · have := hc g rfl i (.int .i64 x) (by
        simp only [natI, List.getElem?_map, Option.map_eq_some_iff] at hx
        obtain ⟨y, h1, h2⟩ := hx
        simp [encN, h1, h2])
      rw [Addr.add_mid, Nat.zero_add] at this
      rw [Nat.zero_add]; exact this
    · injection e with e; injection e with e1 e2
      subst e1; exact ⟨h2, (Array.getElem?_eq_some_iff.1 h3).1, e2.symm⟩

/-- A block of lists that grow. -/
structure Grow (W : World) (lo g n : Nat) (f : Nat → List Nat) (V : Nat → Value) : Prop where
  row : RowAt W g 22 ((List.range n).map V).toArray
  own : ∀ i, i < n → W.ownsRow lo 3 1 (V i) (f i).length (encN (f i))
  sep : ∀ i j k, i < n → j < n → (V i).ownBlock = some k → (V j).ownBlock = some k → i = j
  ne : ∀ i, i < n → (V i).ownBlock ≠ some g
  lo : lo ≤ g
theorem Grow.cell {W : World} {lo g n : Nat} {f : Nat → List Nat} {V : Nat → Value} (h : Grow W lo g n f V) {i : Nat} (hi : i < n) : W.cell? ⟨g, i, none⟩ = some (V i) := by rw [h.row.cell]; simp [hi]
theorem Grow.fr {W W' : World} {lo g n : Nat} {f : Nat → List Nat} {V : Nat → Value} (h : Grow W lo g n f V) (hf : Fr No W W') : Grow W' lo g n f V :=
  ⟨h.row.fr hf id, fun i hi => own_fr2 (h.own i hi) hf (fun _ _ => id), h.sep, h.ne, h.lo⟩
def upF {α : Type} (f : Nat → α) (i : Nat) (x : α) : Nat → α := fun j => if j = i then x else f j
theorem row_up (n : Nat) (V : Nat → Value) (i : Nat) (v : Value) : ((List.range n).map V).toArray.setIfInBounds i v = ((List.range n).map (upF V i v)).toArray := by
  apply Array.ext_getElem?
  intro j
  rw [Array.getElem?_setIfInBounds]
  by_cases h : i = j
  · subst h
    by_cases hi : i < n
    · simp [hi, upF]
    · simp [hi]
  · rw [if_neg h]
    have h' : ¬ j = i := fun e => h e.symm
    by_cases hj : j < n
    · simp [hj, upF, h']
    · simp [hj]
/-- One list has grown by one. -/
theorem Grow.step {W W0 w1 : World} {lo g n : Nat} {f : Nat → List Nat} {V : Nat → Value} (h : Grow W lo g n f V) {i x gg cap : Nat} (hi : i < n) (hf : Fr No W W0)
    (hown : w1.ownsRow lo 3 1 (.slice (some ⟨gg, 0, none⟩) ((f i).length + 1) cap) ((f i).length + 1) (encN (f i) ++ [.int .i64 (x : Int)])) (hg : W0.grownBy w1 (V i).ownBlock) (hat : (V i).ownBlock = some gg ∨ gg = W0.heap.size) :
    (∀ (t : TypeId) (y : Nat) (cs : Array Value), RowAt W0 y t cs → W.heap.size ≤ y → RowAt w1 y t cs) ∧ RowAt w1 g 22 ((List.range n).map V).toArray ∧ Fr (fun k => (V i).ownBlock = some k) W w1 ∧
    Grow (w1.setCell ⟨g, i, none⟩ (.slice (some ⟨gg, 0, none⟩) ((f i).length + 1) cap)) lo g n (upF f i (f i ++ [x])) (upF V i (.slice (some ⟨gg, 0, none⟩) ((f i).length + 1) cap)) := by
  have hF : Fr (fun k => (V i).ownBlock = some k) W0 w1 := Fr.grown hg (fun k e => e)
  have hF2 : Fr (fun k => (V i).ownBlock = some k) W w1 := hf.any.trans hF
  have hlt : ∀ j, j < n → ∀ k, (V j).ownBlock = some k → k < W.heap.size := fun j hj k e => ((h.own j hj).lt k e).2
  have hrow : RowAt w1 g 22 ((List.range n).map V).toArray := h.row.fr hF2 (h.ne i hi)
  have hgg : gg ≠ g := fun e => by
    rcases hat with e1 | e1
    · exact h.ne i hi (by rw [e1, e])
    · have := h.row.lt; have := hf.size; omega
  refine ⟨fun t y cs hr hy => hr.fr hF (fun e => by have := hlt i hi y e; omega), hrow, hF2, ?_, ?_, ?_, ?_, h.lo⟩
  · have := RowAt.set hrow i (.slice (some ⟨gg, 0, none⟩) ((f i).length + 1) cap)
    rw [row_up] at this; exact this
  · intro j hj
    unfold upF
    by_cases e : j = i
    · subst e
      rw [if_pos rfl, if_pos rfl]
      rw [show (f j ++ [x]).length = (f j).length + 1 from by simp, show encN (f j ++ [x]) = encN (f j) ++ [.int .i64 (x : Int)] from by simp [encN]]
      exact own_fr2 hown (Fr.set (S := fun k => k = g) _ _ _ _ rfl) (fun k e1 e2 => by injection e1 with e1; exact hgg (e1.trans e2))
    · rw [if_neg e, if_neg e]
      refine own_fr2 (own_fr2 (h.own j hj) hF2 (fun k e1 e2 => e (h.sep j i k hj hi e1 e2))) (Fr.set (S := fun k => k = g) _ _ _ _ rfl) (fun k e1 e2 => h.ne j hj (by rw [e1, e2]))
  · have new : ∀ j, j < n → j ≠ i → (V j).ownBlock ≠ some gg := fun j hj e e1 => by
      rcases hat with e2 | e2
      · exact e (h.sep j i gg hj hi e1 e2)
      · have := hlt j hj gg e1; have := hf.size; omega
    intro j k b hj hk e1 e2
    unfold upF at e1 e2
    by_cases ej : j = i
    · by_cases ek : k = i
      · rw [ej, ek]
      · rw [if_pos ej] at e1; rw [if_neg ek] at e2
        injection e1 with e1
        exact absurd (by rw [e2, ← e1]) (new k hk ek)
    · rw [if_neg ej] at e1
      by_cases ek : k = i
      · rw [if_pos ek] at e2
        injection e2 with e2
        exact absurd (by rw [e1, ← e2]) (new j hj ej)
      · rw [if_neg ek] at e2; exact h.sep j k b hj hk e1 e2
  · intro j hj
    unfold upF
    by_cases e : j = i
    · rw [if_pos e]; intro e1; injection e1 with e1; exact hgg e1
    · rw [if_neg e]; exact h.ne j hj
theorem Grow.new {W : World} (n : Nat) : Grow (W.alloc (.cells (madeCells #[.slice none 0 0] n) 22)) W.heap.size W.heap.size n (fun _ => []) (fun _ => .slice none 0 0) := by
  refine ⟨?_, fun i hi => World.ownsRow_nil _ _ _ _, (fun i j k _ _ e => nomatch e), (fun i _ e => nomatch e), Nat.le_refl _⟩
  have e : madeCells #[Value.slice none 0 0] n = ((List.range n).map fun _ => Value.slice none 0 0).toArray := by
    have := toList_madeCells_one (.slice none 0 0) n
    apply Array.ext'
    rw [this]
    simp [List.map_const']
  rw [← e]
  exact RowAt.new W 22 _

/-- A block of lists, for reading: all blocks are from lo on, below hi. -/
structure ListsIn (W : World) (lo hi g n : Nat) (f : Nat → List Nat) : Prop where
  lo_ : lo ≤ g
  g_ : g < hi
  hi_ : hi ≤ W.heap.size
  at_ : ∀ i, i < n → ∃ a cap, W.cell? ⟨g, i, none⟩ = some (.slice a (f i).length cap) ∧ NumsIn W a (natI (f i)) ∧ ∀ b off, a = some ⟨b, off, none⟩ → lo ≤ b ∧ b < hi
theorem ListsIn.fr {W W' : World} {lo hi g n : Nat} {f : Nat → List Nat} {S : Nat → Prop} (h : ListsIn W lo hi g n f) (hf : Fr S W W') (hS : ∀ k, lo ≤ k → k < hi → ¬ S k) : ListsIn W' lo hi g n f := by
  refine ⟨h.lo_, h.g_, Nat.le_trans h.hi_ hf.size, fun i hi => ?_⟩
  obtain ⟨a, cap, h1, h2, h3⟩ := h.at_ i hi
  exact ⟨a, cap, (World.cell?_of_block (hf.block g (Nat.lt_of_lt_of_le h.g_ h.hi_) (hS g h.lo_ h.g_))).trans h1, h2.fr hf (fun b off e => hS b (h3 b off e).1 (h3 b off e).2), h3⟩
theorem Grow.lists {W : World} {lo g n : Nat} {f : Nat → List Nat} {V : Nat → Value} (h : Grow W lo g n f V) : ListsIn W lo W.heap.size g n f := by
  refine ⟨h.lo, h.row.lt, Nat.le_refl _, fun i hi => ?_⟩
  obtain ⟨a, cap, h1, h2, h3, h4⟩ := own_num (h.own i hi)
  exact ⟨a, cap, by rw [h.cell hi, h1], h3, fun b off e => ⟨(h4 b off e).1, (h4 b off e).2.1⟩⟩
theorem make_lists (n : Nat) (hn : n ≤ 256) (w : World) : (Instr.makeSlice 66 (.int .i64 (n : Int)) (.int .i64 (n : Int))).run Try.prog w = .ok (.slice (some ⟨w.heap.size, 0, none⟩) n n) (w.alloc (.cells (madeCells #[.slice none 0 0] n) 22)) :=
  run_make_row' 66 22 (.slice none 0 0) 24 Try.underlying66 info_ints rfl .i64 .i64 n (by omega) (by omega) w
end Go.Proofs.Yteikipiigbjgbaa
