/- Clone; raise. -/
import Derived.Test.YteikipiigbjgbaaGk
import Derived.Lib.LazyBuf
import Derived.WalkSmall
namespace Go.Proofs.Yteikipiigbjgbaa
open Go.RowKit
set_option linter.unusedVariables false

def encI (l : List Int) : List Value := l.map fun x => .int .i64 x
theorem encI_len (l : List Int) : (encI l).length = l.length := by simp [encI]
theorem encI_one (l : List Int) : ∀ u ∈ encI l, u.oneCell' = true := by
  intro u hu
  obtain ⟨x, _, rfl⟩ := List.mem_map.1 hu; rfl
theorem cells_of_nums {w : World} {b off : Nat} {l : List Int} (h : NumsAt w b off l) : ∀ j u, (encI l)[j]? = some u → w.cell? ((⟨b, off, none⟩ : Addr).add j) = some u := fun j u hj => by
  simp only [encI, List.getElem?_map, Option.map_eq_some_iff] at hj
  obtain ⟨x, hx, rfl⟩ := hj
  rw [Addr.add_mid]; exact h.2 j x hx
set_option maxRecDepth 100000 in
set_option maxHeartbeats 1000000 in
theorem clone_any (a : Option Addr) (cap : Nat) (l : List Int) (W : World) (h : NumsIn W a l) (hm : l.length ≤ 65536) (hcap : a = none → cap = 0) :
    Calls Try.prog 18 #[.slice a l.length cap] W fun e w' => ∃ v, e = .returned v ∧ w'.ownsRow W.heap.size 3 1 v l.length (encI l) ∧ Fr No W w' := by
  cases a with
  | none =>
    have hl : l = [] := by rcases h with h | ⟨b, off, e, _⟩; exact h; cases e
    subst hl
    have hc := hcap rfl
    subst hc
    have hq := run_eql_slice_nil (P := Try.prog) W 22 3 none 0 0 Try.underlying22
    go_enter Try.func18, Try.ntmps18
    go_wp2
    go_ret
    exact ⟨_, rfl, World.ownsRow_nil _ _ _ _, Fr.refl _ _⟩
  | some ad =>
    obtain ⟨z0, hi0, hz0, hz1, hz2⟩ := info_parts info_int
    have HI0 := Lib.hid hi0
    have HZ0 := Lib.hid hz0
    have HZ1 := Lib.hid hz1
    have HZ2 := Lib.hid hz2
    have hq := run_eql_slice_nil (P := Try.prog) W 22 3 (some ad) l.length cap Try.underlying22
    have HN : Hid (∀ j u, (encI l)[j]? = some u → (W.alloc (.cells #[] 3)).cell? (ad.add j) = some u) := by
      intro j u hj
      rcases h with h | ⟨b, off, e, hb⟩
      · subst h; cases hj
      · injection e with e; subst e
        have := cells_of_nums hb j u hj
        rw [Addr.add_mid] at this ⊢
        exact (World.cell?_of_block (heap_alloc_old _ _ hb.1)).trans this
    have HO : Hid ((W.alloc (.cells #[] 3)).ownsRow W.heap.size 3 1 (.slice (some ⟨W.heap.size, 0, none⟩) 0 0) 0 []) := World.ownsRow_made W #[] 0 (Nat.le_refl _) (by unfold maxLen; omega) rfl
    have HL : Hid ((encI l).length = l.length * 1) := by show _ = _; rw [encI_len]; omega
    have HMAX : Hid (0 + l.length ≤ maxLen) := by show _ ≤ _; unfold maxLen; omega
    have HBYT : Hid ((0 + l.length) * 8 ≤ 140737488355328) := by show _ ≤ _; omega
    have HSZ : Hid (W.heap.size ≤ (W.alloc (.cells #[] 3)).heap.size) := by show _ ≤ _; simp
    have HF : Hid (Fr No W (W.alloc (.cells #[] 3))) := Fr.alloc _ _ _
    clear hi0 hz0 hz1 hz2 h hm hcap
    go_enter Try.func18, Try.ntmps18
    go_wp2_with (refine wpList_append_own (W.alloc (.cells #[] 3)) rfl (.tmp 5) (.tmp 6) 22 rfl W.heap.size 3 z0 (.int .i64 0) 1 8 Try.underlying22 HI0.out HZ0.out HZ1.out HZ2.out rfl (by decide) (.slice (some ⟨W.heap.size, 0, none⟩) 0 0) 0 [] rfl HO.out ad l.length cap (encI l) rfl HL.out HN.out (encI_one l) HMAX.out HBYT.out HSZ.out ?_; intro v' w' h2 h3 h4; have H2 := Lib.hid h2; have H3 := Lib.hid h3; clear h2 h3 h4)
    go_ret
    have h2 := H2.out
    rw [Nat.zero_add, List.nil_append] at h2
    exact ⟨v', rfl, h2, HF.out.over (Fr.grown (S := fun k => k = W.heap.size) H3.out (fun k e => by injection e with e; exact e.symm)) (fun k e => .inr (by omega))⟩

theorem own_shape {W : World} {lo size : Nat} {t : TypeId} {v : Value} {n : Nat} {xs : List Value} (h : W.ownsRow lo t size v n xs) : ∃ a c, v = .slice a n c := by
  rcases h.2 with ⟨rfl, h0⟩ | ⟨g, cap, cur, rfl, _⟩
  · exact ⟨_, _, by rw [h0]⟩
  · exact ⟨_, _, rfl⟩
/-! the state of effective -/
def encP (n : Nat) (p : Nat → Int) : List Value := (List.range n).map fun i => .int .i64 (p i)
theorem encP_len (n : Nat) (p : Nat → Int) : (encP n p).length = n := by simp [encP]
theorem encP_get {n i : Nat} (p : Nat → Int) (h : i < n) : (encP n p)[i]? = some (.int .i64 (p i)) := by simp [encP, h]
theorem encP_set {n i : Nat} (p : Nat → Int) (x : Int) : (encP n p).set i (.int .i64 x) = encP n (upI p i x) := by
  apply List.ext_getElem?
  intro j
  rw [List.getElem?_set]
  by_cases hj : j < n
  · by_cases e : i = j
    · subst e; rw [if_pos rfl, if_pos (by rw [encP_len]; exact hj), encP_get _ hj, upI_same]
    · rw [if_neg e, encP_get _ hj, encP_get _ hj, upI_other (fun h => e h.symm)]
  · rw [List.getElem?_eq_none (l := encP n (upI p i x)) (by rw [encP_len]; omega)]
    by_cases e : i = j
    · subst e; rw [if_pos rfl, if_neg (by rw [encP_len]; omega)]
    · rw [if_neg e, List.getElem?_eq_none (by rw [encP_len]; omega)]
theorem encI_eq (bs : List Int) : encI bs = encP bs.length (fun i => bs.getD i 0) := by
  apply List.ext_getElem?
  intro j
  by_cases hj : j < bs.length
  · rw [encP_get _ hj]; simp [encI, List.getD_eq_getElem?_getD, hj]
  · rw [List.getElem?_eq_none (by rw [encI_len]; omega), List.getElem?_eq_none (by rw [encP_len]; omega)]

structure ES (W : World) (hi bp bw n : Nat) (pv wv : Value) (p : Nat → Int) (q : List Nat) : Prop where
  rp : RowAt W bp 22 #[pv]
  rw_ : RowAt W bw 22 #[wv]
  pr : W.ownsRow 0 3 1 pv n (encP n p)
  wr : W.ownsRow hi 3 1 wv q.length (encN q)
  ne : bp ≠ bw
  p1 : pv.ownBlock ≠ some bp
  p2 : pv.ownBlock ≠ some bw
  ph : ∀ k, pv.ownBlock = some k → k < hi
  h1 : bp < hi
  h2 : bw < hi
  hh : hi ≤ W.heap.size
/-- What may turn. -/
def EF (hi bw : Nat) (pv : Value) : Nat → Prop := fun k => k = bw ∨ pv.ownBlock = some k ∨ hi ≤ k
theorem ES.fr {W W' : World} {hi bp bw n : Nat} {pv wv : Value} {p : Nat → Int} {q : List Nat} (h : ES W hi bp bw n pv wv p q) (hf : Fr No W W') : ES W' hi bp bw n pv wv p q :=
  ⟨h.rp.fr hf id, h.rw_.fr hf id, own_fr2 h.pr hf (fun _ _ => id), own_fr2 h.wr hf (fun _ _ => id), h.ne, h.p1, h.p2, h.ph, h.h1, h.h2, Nat.le_trans h.hh hf.size⟩
theorem ES.shape {W : World} {hi bp bw n : Nat} {pv wv : Value} {p : Nat → Int} {q : List Nat} (h : ES W hi bp bw n pv wv p q) {i : Nat} (hi' : i < n) : ∃ g cap, pv = .slice (some ⟨g, 0, none⟩) n cap ∧ (∀ j, j < n → W.cell? ⟨g, j, none⟩ = some (.int .i64 (p j))) ∧ ∀ j, W.frozen? ⟨g, j, none⟩ = false := by
  rcases h.pr.2 with ⟨e, h0⟩ | ⟨g, cap, cur, e, h2, h3, _⟩
  · omega
  · have ho := h.pr
    rw [e] at ho
    exact ⟨g, cap, e, fun j hj => by rw [ho.cellAt j (by omega), encP_get _ hj], fun j => ho.frozenAt j⟩
theorem ES.wshape {W : World} {hi bp bw n : Nat} {pv wv : Value} {p : Nat → Int} {q : List Nat} (h : ES W hi bp bw n pv wv p q) : ∃ a cap, wv = .slice a q.length cap := by
  obtain ⟨a, cap, e, _⟩ := own_num h.wr; exact ⟨a, cap, e⟩

set_option maxRecDepth 100000 in
set_option maxHeartbeats 1000000 in
theorem raise_no {W : World} {hi bp bw n : Nat} {pv wv : Value} {p : Nat → Int} {q : List Nat} (h : ES W hi bp bw n pv wv p q) (i : Nat) (x : Int) (hin : i < n) (hx : ¬ p i < x) :
    Calls Try.prog 45 #[.int .i64 (i : Int), .int .i64 x, .pointer (some ⟨bp, 0, none⟩), .pointer (some ⟨bw, 0, none⟩)] W fun e w' => e = .returned (.tuple #[]) ∧ W = w' := by
  obtain ⟨g, cap, rfl, hc, hf⟩ := h.shape hin
  have c0 : W.cell? ⟨bp, 0, none⟩ = some (.slice (some ⟨g, 0, none⟩) n cap) := h.rp.cell 0
  have c1 := hc i hin
  have i0 : (0 : Int) ≤ i := by omega
  have i1 : (i : Int) < n := by omega
  clear h hc hf hin
  generalize p i = y at c1 hx
  go_enter Try.func45, Try.ntmps45
  go_wp2
  go_end0
  exact ⟨rfl, rfl⟩
set_option maxRecDepth 100000 in
set_option maxHeartbeats 2000000 in
theorem raise_yes {W : World} {hi bp bw n : Nat} {pv wv : Value} {p : Nat → Int} {q : List Nat} (h : ES W hi bp bw n pv wv p q) (i : Nat) (x : Int) (hin : i < n) (hx : p i < x) (hq : q.length ≤ 1000000) :
    Calls Try.prog 45 #[.int .i64 (i : Int), .int .i64 x, .pointer (some ⟨bp, 0, none⟩), .pointer (some ⟨bw, 0, none⟩)] W fun e w' => e = .returned (.tuple #[]) ∧ (∃ wv', ES w' hi bp bw n pv wv' (upI p i x) (q ++ [i])) ∧ Fr (EF hi bw pv) W w' := by
  have HH := Lib.hid h
  obtain ⟨g, cap, rfl, hc, hf⟩ := h.shape hin
  obtain ⟨av, cv, rfl⟩ := h.wshape
  have c0 : W.cell? ⟨bp, 0, none⟩ = some (.slice (some ⟨g, 0, none⟩) n cap) := h.rp.cell 0
  have c1 := hc i hin
  have f1 := hf i
  have HIN := Lib.hid hin
  have i0 : (0 : Int) ≤ i := by omega
  have i1 : (i : Int) < n := by omega
  have hgp : g ≠ bp := fun e => h.p1 (by rw [e]; rfl)
  have HGW : Hid (g ≠ bw) := fun e => h.p2 (by rw [e]; rfl)
  have HQ := Lib.hid hq
  clear h hc hf hin hq
  generalize hpi : p i = y at c1 hx
  clear hpi
  go_enter Try.func45, Try.ntmps45
  go_upto_region 2 with (fail)
  have HP1 : Hid ((W.setCell ⟨g, i, none⟩ (.int .i64 x)).ownsRow 0 3 1 (.slice (some ⟨g, 0, none⟩) n cap) n (encP n (upI p i x))) := by show World.ownsRow _ _ _ _ _ _ _; rw [← encP_set]; exact (HH.out.pr.stored i _).1
  have HF1 : Hid (Fr (fun k => k = g) W (W.setCell ⟨g, i, none⟩ (.int .i64 x))) := Fr.set (S := fun k => k = g) _ _ _ _ rfl
  clear c0 c1 f1
  generalize World.setCell W _ _ = W1 at HP1 HF1 ⊢
  have HRP : Hid (RowAt W1 bp 22 #[.slice (some ⟨g, 0, none⟩) n cap]) := HH.out.rp.fr HF1.out (fun e => hgp e.symm)
  have HRW : Hid (RowAt W1 bw 22 #[.slice av q.length cv]) := HH.out.rw_.fr HF1.out (fun e => HGW.out e.symm)
  have HW1 : Hid (W1.ownsRow hi 3 1 (.slice av q.length cv) q.length (encN q)) := own_fr2 HH.out.wr HF1.out (fun k e e2 => by have := (HH.out.wr.lt k e).1; have := HH.out.ph g rfl; omega)
  clear hgp
  have c2 : W1.cell? ⟨bw, 0, none⟩ = some (.slice av q.length cv) := HRW.out.cell 0
  obtain ⟨z0, hi0, hz0, hz1, hz2⟩ := info_parts info_int
  have HI0 := Lib.hid hi0
  have HZ0 := Lib.hid hz0
  have HZ1 := Lib.hid hz1
  have HZ2 := Lib.hid hz2
  clear hi0 hz0 hz1 hz2
  have HFA : Hid (Fr No W1 (W1.alloc (.cells #[.int .i64 (i : Int)] 3))) := Fr.alloc _ _ _
  have HO : Hid ((W1.alloc (.cells #[.int .i64 (i : Int)] 3)).ownsRow hi 3 1 (.slice av q.length cv) q.length (encN q)) := own_fr2 HW1.out HFA.out (fun _ _ => id)
  have HONE : Hid (∀ u ∈ [Value.int .i64 (i : Int)], u.oneCell' = true) := by show ∀ u ∈ _, _; simp [Value.oneCell']
  have HMAX : Hid (q.length + 1 ≤ maxLen) := by have := HQ.out; show _ ≤ _; unfold maxLen; omega
  have HBYT : Hid ((q.length + 1) * 8 ≤ 140737488355328) := by have := HQ.out; show _ ≤ _; omega
  have HSZ : Hid (hi ≤ (W1.alloc (.cells #[.int .i64 (i : Int)] 3)).heap.size) := by have := HH.out.hh; have := HF1.out.size; show _ ≤ _; simp; omega
  go_wp2_with ((at_builtin; refine wpList_append_own (W1.alloc (.cells #[.int .i64 (i : Int)] 3)) rfl (.tmp 16) (.tmp 18) 22 rfl hi 3 z0 (.int .i64 0) 1 8 Try.underlying22 HI0.out HZ0.out HZ1.out HZ2.out rfl (by decide) (.slice av q.length cv) q.length (encN q) rfl HO.out ⟨W1.heap.size, 0, none⟩ 1 1 [.int .i64 (i : Int)] rfl rfl (cell_one_new W1 _ _) HONE.out HMAX.out HBYT.out HSZ.out ?_; intro v2 w' h2 h3 h4; obtain ⟨ap, cp, hv2⟩ := own_shape h2; subst hv2; have H2 := Lib.hid h2; have HF2 : Hid (Fr (fun k => (Value.slice av q.length cv).ownBlock = some k) W1 w') := HFA.out.any.trans (Fr.grown h3 (fun k e => e)); clear h2 h3 h4; have HRW2 : Hid (RowAt w' bw 22 #[.slice av q.length cv]) := HRW.out.fr HF2.out (fun e => by have := (HW1.out.lt bw e).1; have := HH.out.h2; omega); have c3 : w'.cell? ⟨bw, 0, none⟩ = some (.slice av q.length cv) := HRW2.out.cell 0; have f3 : w'.frozen? ⟨bw, 0, none⟩ = false := HRW2.out.frozen 0))
  go_end0
  have hlt : ∀ k, (Value.slice av q.length cv).ownBlock = some k → hi ≤ k := fun k e => (HW1.out.lt k e).1
  have hvlt : ∀ k, (Value.slice ap (q.length + 1) cp).ownBlock = some k → hi ≤ k := fun k e => (H2.out.lt k e).1
  have h2' : w'.ownsRow hi 3 1 (.slice ap (q.length + 1) cp) (q ++ [i]).length (encN (q ++ [i])) := by rw [List.length_append]; have := H2.out; simpa [encN] using this
  have HFs : Fr (fun k => k = bw) w' (w'.setCell ⟨bw, 0, none⟩ (.slice ap (q.length + 1) cp)) := Fr.set (S := fun k => k = bw) _ _ _ _ rfl
  refine ⟨rfl, ⟨.slice ap (q.length + 1) cp, ⟨?_, ?_, ?_, ?_, HH.out.ne, HH.out.p1, HH.out.p2, HH.out.ph, HH.out.h1, HH.out.h2, ?_⟩⟩, ?_⟩
  · exact (HRP.out.fr HF2.out (fun e => by have := hlt bp e; have := HH.out.h1; omega)).fr HFs (fun e => HH.out.ne e)
  · exact RowAt.set HRW2.out 0 (.slice ap (q.length + 1) cp)
  · exact own_fr2 (own_fr2 HP1.out HF2.out (fun k e e2 => by have := hlt k e2; have := HH.out.ph k e; omega)) HFs (fun k e e2 => HGW.out (by injection e with e; rw [← e2, ← e]))
  · exact own_fr2 h2' HFs (fun k e e2 => by have := hvlt k e; have := HH.out.h2; omega)
  · have := HH.out.hh; have := HF1.out.size; have := HF2.out.size; have := HFs.size; omega
  · exact ((HF1.out.mono (fun k _ e => .inr (.inl (by rw [e]; rfl)))).trans (HF2.out.mono (fun k _ e => .inr (.inr (hlt k e))))).trans (HFs.mono (fun k _ e => .inl e))
end Go.Proofs.Yteikipiigbjgbaa
