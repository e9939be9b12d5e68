/- Interrupts: a set of numbers in a map; the states of InterruptsMasked. -/
import Derived.Test.YtbnchmhhhildnaaXzi
namespace Go.Proofs.Ytbnchmhhhildnaa
open Go.RowKit Go.Maps Go.WideMaps Go.ChangeMaps
set_option linter.unusedVariables false

/-- Block b is a map in which these numbers are. -/
def MB (W : World) (b : Nat) (ks : List Int) : Prop := ∃ (es : Array MapEntry) (clock : Nat), W.heap[b]? = some (.map es clock) ∧ es.toList.map (·.key) = ks.map iE ∧ ∀ x ∈ es.toList, x.val = .bool true
theorem MB.new (W : World) : MB (W.alloc (.map #[] 0)) W.heap.size [] := ⟨#[], 0, heap_alloc_new W _, rfl, fun _ h => nomatch h⟩
theorem MB.lt {W : World} {b : Nat} {ks : List Int} (h : MB W b ks) : b < W.heap.size := by obtain ⟨es, c, h, _⟩ := h; exact (Array.getElem?_eq_some_iff.1 h).1
theorem MB.fr {W W' : World} {b : Nat} {ks : List Int} {S : Nat → Prop} (h : MB W b ks) (hf : Fr S W W') (hS : ¬ S b) : MB W' b ks := by
  have hl := h.lt
  obtain ⟨es, c, h1, h2, h3⟩ := h
  exact ⟨es, c, (hf.block b hl hS).trans h1, h2, h3⟩
theorem iE_inj {a b : Int} (h : iE a = iE b) : a = b := by simp [iE] at h; exact h
theorem MB.find {W W' : World} {ks : List Int} (hks : ∀ k ∈ ks, isW k) {e : Int} (he : isW e) {es : Array MapEntry} (hk : es.toList.map (·.key) = ks.map iE) :
    ((Instr.findKey 3 (iE e) es.toList).run Try.prog W' = .ok none W' ∧ e ∉ ks) ∨ ∃ j x, (Instr.findKey 3 (iE e) es.toList).run Try.prog W' = .ok (some (j, x.val)) W' ∧ x ∈ es.toList ∧ e ∈ ks := by
  have hmem : ∀ x ∈ es.toList, ∃ k ∈ ks, x.key = iE k := fun x hx => by
    have : x.key ∈ es.toList.map (·.key) := List.mem_map.2 ⟨x, hx, rfl⟩
    rw [hk] at this
    obtain ⟨k, k1, k2⟩ := List.mem_map.1 this
    exact ⟨k, k1, k2.symm⟩
  rcases keyedI.find W' (key6 he) es.toList (fun x hx => by obtain ⟨k, k1, k2⟩ := hmem x hx; rw [k2]; exact ⟨_, key6 (hks k k1)⟩) with ⟨h1, h2⟩ | ⟨j, x, h1, h2, h3⟩
  · refine .inl ⟨h1, fun hm => ?_⟩
    have : iE e ∈ ks.map iE := List.mem_map.2 ⟨e, hm, rfl⟩
    rw [← hk] at this
    obtain ⟨x, x1, x2⟩ := List.mem_map.1 this
    exact h2 x x1 x2
  · have hx := List.mem_of_getElem? h2
    obtain ⟨k, k1, k2⟩ := hmem x hx
    have h3' : x.key = iE e := h3
    rw [h3'] at k2
    exact .inr ⟨j, x, h1, hx, by rw [iE_inj k2]; exact k1⟩
theorem MB.look {W : World} {b : Nat} {ks : List Int} (h : MB W b ks) (hks : ∀ k ∈ ks, isW k) {e : Int} (he : isW e) (hne : e ∉ ks) :
    (Instr.lookup 51 (.map (some b)) (.int .i64 e) false).run Try.prog W = .ok (.bool false) W := by
  obtain ⟨es, c, hb, hk, hv⟩ := h
  have hz : (zeroValue 4).run Try.prog W = .ok (.bool false) W := by kernel_rfl
  rcases MB.find (W' := W) (W := W) hks he hk with ⟨h1, h2⟩ | ⟨j, x, h1, h2, h3⟩
  · have h1' : (Instr.findKey 3 (.int .i64 e) es.toList).run Try.prog W = .ok none W := h1
    have hck : ∀ em, (Instr.checkKey em 10000 3 (.int .i64 e)).run Try.prog W = .ok () W := fun em => keyedI.check W em (key6 he)
    simp [Instr.lookup, run_underlying Try.underlying51, MapKept.run_getObj_map hb, hck, h1', hz, Result.andThen]
  · exact absurd h3 hne
theorem MB.put {W : World} {b : Nat} {ks : List Int} (h : MB W b ks) (hks : ∀ k ∈ ks, isW k) {e : Int} (he : isW e) (hne : e ∉ ks) :
    ∃ W', (Instr.mapUpdate 51 (.map (some b)) (.int .i64 e) (.bool true)).run Try.prog W = .ok () W' ∧ MB W' b (ks ++ [e]) ∧ Fr (fun k => k = b) W W' := by
  have hlt := h.lt
  obtain ⟨es, c, hb, hk, hv⟩ := h
  rcases MB.find (W' := W) (W := W) hks he hk with ⟨h1, h2⟩ | ⟨j, x, h1, h2, h3⟩
  · have h1' : (Instr.findKey 3 (.int .i64 e) es.toList).run Try.prog W = .ok none W := h1
    have hck : (Instr.checkKey false 10000 3 (.int .i64 e)).run Try.prog W = .ok () W := keyedI.check W false (key6 he)
    refine ⟨setBlock W b (.map (es.push ⟨.int .i64 e, .bool true, c⟩) (c + 1)), ?_, ⟨_, _, heap_setBlock_same hb _, ?_, ?_⟩, fr_setBlock _⟩
    · simp [Instr.mapUpdate, run_underlying Try.underlying51, MapKept.run_getObj_map hb, hck, h1', MapKept.run_setObj_map _ hb, Result.andThen, setBlock]
    · rw [Array.toList_push, List.map_append, hk, List.map_append]; rfl
    · intro x hx
      rw [Array.toList_push, List.mem_append, List.mem_singleton] at hx
      rcases hx with hx | rfl
      · exact hv x hx
      · rfl
  · exact absurd h3 hne
theorem wrap_ne (x : Int) : wrap64 (x + 1) ≠ x := fun e => by
  unfold wrap64 at e
  omega
theorem hitL_eq {s : IS} {n : Nat} {l : IL} (hl : s.ls[n]? = some l) : hitL s n = (l.p && sumI s n == 0) := by
  unfold hitL sumI
  rw [hl, ordL_nat hl]
theorem sumI_eq {s t : IS} {n : Nat} {l m : IL} (hl : s.ls[n]? = some l) (hm : t.ls[n]? = some m) (ho : l.o = m.o) (hc : ∀ x, s.cn ((n : Int), x) = t.cn ((n : Int), x)) : sumI s n = sumI t n := by
  unfold sumI sumL
  rw [ordL_nat hl, ordL_nat hm, ho, hc, slq_congr hc]
/-- The states of a masked line: raised while it is masked, unmasked, delivered. -/
theorem masked_states {s : IS} (h : IOk s) {n : Nat} {l : IL} (hl : s.ls[n]? = some l) (hp : l.p = true) (hz : 0 < sumI s n) (hc : 0 < s.cn ((n : Int), -1)) :
    atts n (dA s s.ls.length).2 = [] ∧ (stV s).ls[n]? = some l ∧ stU (stV s) n (-1) = (mS (stV s) n (-1), sumI s n - 1, 0) ∧ IOk (mS (stV s) n (-1)) ∧ (mS (stV s) n (-1)).ls[n]? = some l ∧
    (sumI s n - 1 ≠ 0 → atts n (dA (mS (stV s) n (-1)) (mS (stV s) n (-1)).ls.length).2 = [] ∧ spI (dA (mS (stV s) n (-1)) (mS (stV s) n (-1)).ls.length).1 n = l.s) ∧
    (sumI s n - 1 = 0 → atts n (dA (mS (stV s) n (-1)) (mS (stV s) n (-1)).ls.length).2 = l.o ∧ (l.o ≠ [] ↔ spI (dA (mS (stV s) n (-1)) (mS (stV s) n (-1)).ls.length).1 n = l.s)) := by
  have hn := (List.getElem?_eq_some_iff.1 hl).1
  have hh : hitL s n = false := by rw [hitL_eq hl, hp]; simp; omega
  obtain ⟨e1, e2⟩ := dA_line hl s.ls.length hn
  rw [hh] at e1 e2
  simp only [Bool.false_eq_true, if_false] at e1 e2
  have hV : (stV s).ls[n]? = some l := e1
  have hVc : ∀ x, (stV s).cn ((n : Int), x) = s.cn ((n : Int), x) := e2
  have hVs : sumI (stV s) n = sumI s n := sumI_eq hV hl rfl hVc
  have kV := stV_ok h
  have hU := stU_own kV hV (j := 0) (by rw [hVc]; omega)
  rw [mS_zero, hVs] at hU
  have kM : IOk (mS (stV s) n (-1)) := mS_ok kV hV (by rw [hVc]; omega) (by have := kV.c1 ((n : Int), -1); omega)
  have hM : (mS (stV s) n (-1)).ls[n]? = some l := hV
  have hMs : sumI (mS (stV s) n (-1)) n = sumI s n - 1 := by rw [mS_sum kV hV, hVs]; omega
  have hMh : hitL (mS (stV s) n (-1)) n = (sumI s n - 1 == 0) := by rw [hitL_eq hM, hMs, hp]; simp
  have hMn := (List.getElem?_eq_some_iff.1 hM).1
  have a2 := dA_atts hM (mS (stV s) n (-1)).ls.length
  obtain ⟨b1, b2⟩ := dA_line hM (mS (stV s) n (-1)).ls.length hMn
  refine ⟨?_, hV, ?_, kM, hM, fun hne => ?_, fun he => ?_⟩
  · rw [dA_atts hl, if_neg (by rw [hh]; simp)]
  · rw [hU]
    congr 2
    omega
  · have hf : hitL (mS (stV s) n (-1)) n = false := by rw [hMh]; simpa using hne
    rw [hf] at a2 b1
    refine ⟨by rw [a2, if_neg (by simp)], ?_⟩
    simp only [Bool.false_eq_true, if_false] at b1
    exact spI_nat b1
  · have hf : hitL (mS (stV s) n (-1)) n = true := by rw [hMh]; simpa using he
    rw [hf] at a2 b1
    refine ⟨by rw [a2, if_pos ⟨hMn, rfl⟩], ?_⟩
    simp only [if_true] at b1
    rw [spI_nat b1]
    unfold dlL
    by_cases ho : l.o = []
    · rw [if_pos ho]
      simp [ho]
      exact wrap_ne _
    · rw [if_neg ho]
      simp [ho]
end Go.Proofs.Ytbnchmhhhildnaa
