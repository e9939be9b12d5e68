/- Interrupts: an order changes; insert, Attach. -/
import Derived.Test.YtbnchmhhhildnaaXn
namespace Go.Proofs.Ytbnchmhhhildnaa
open Go.RowKit Go.Maps
set_option linter.unusedVariables false

/-- The own blocks, and what a call has made. -/
def Gr (O : Nat → Prop) (W w' : World) : Nat → Prop := fun k => O k ∨ (W.heap.size ≤ k ∧ k < w'.heap.size)
theorem OL.ne {W : World} {O : Nat → Prop} {B : Nat} {y : LY} {s : IS} (h : CM W O B y s) {v : Value} {o : List Int} (ho : OL W v o) {k : Nat} (hk : v.ownBlock = some k) : B ≠ k ∧ y.b ≠ k ∧ y.a ≠ k ∧ y.c ≠ k ∧ y.t ≠ k := by
  obtain ⟨cur, h1⟩ := ho.block hk
  obtain ⟨cur2, h2, _⟩ := h.lines
  obtain ⟨es1, ck1, a1, _⟩ := h.ma
  obtain ⟨es2, ck2, a2, _⟩ := h.mc
  obtain ⟨es3, ck3, a3, _⟩ := h.mt
  exact ⟨cells_ne h.row h1 (Ne.symm tne_int_ct), cells_ne h2 h1 tne_in_int, (heap_ne a1 h1 (fun _ _ e => by cases e)).symm, (heap_ne a2 h1 (fun _ _ e => by cases e)).symm, (heap_ne a3 h1 (fun _ _ e => by cases e)).symm⟩
theorem OL.ltk {W : World} {v : Value} {o : List Int} (ho : OL W v o) {k : Nat} (hk : v.ownBlock = some k) : k < W.heap.size := by
  obtain ⟨cur, h1⟩ := ho.block hk
  exact (Array.getElem?_eq_some_iff.1 h1).1
/-- The order of a line changes. -/
theorem CM.setO {W W1 : World} {O : Nat → Prop} {B : Nat} {y : LY} {s : IS} (h : CM W O B y s) {n : Nat} {l : IL} {v v' : Value} {o' : List Int} (hl : s.ls[n]? = some l) (hv : y.vs[n]? = some v) (hf : Fr (fun k => v.ownBlock = some k) W W1) (ho : OL W1 v' o')
    (hb : ∀ k, v'.ownBlock = some k → v.ownBlock = some k ∨ W.heap.size ≤ k) : CM (W1.setCell ⟨y.b, n * 4 + 1, none⟩ v') (Gr O W (W1.setCell ⟨y.b, n * 4 + 1, none⟩ v')) B { y with vs := y.vs.set n v' } (setLs s n { l with o := o' }) ∧ Fr O W (W1.setCell ⟨y.b, n * 4 + 1, none⟩ v') := by
  have hln := (List.getElem?_eq_some_iff.1 hl).1
  have hvn := (List.getElem?_eq_some_iff.1 hv).1
  have hne := fun k (hk : v.ownBlock = some k) => OL.ne h (h.ord n l v hl hv) hk
  have hs : Fr (fun k => k = y.b) W1 (W1.setCell ⟨y.b, n * 4 + 1, none⟩ v') := Fr.set _ _ _ _ rfl
  have hsz : (W1.setCell ⟨y.b, n * 4 + 1, none⟩ v').heap.size = W1.heap.size := by simp
  obtain ⟨n1, n2, n3, n4, n5⟩ := h.line_ne
  have hL1 := h.lines.fr hf (fun e => (hne _ e).2.1 rfl)
  have hL := hL1.put hl hv (q := 1) (by omega) v' { l with o := o' } v' (.inr ⟨by omega, rfl⟩) (.inl ⟨rfl, rfl⟩) (.inr ⟨by omega, rfl⟩) (.inr ⟨by omega, rfl⟩)
  have hv'b : ∀ k, v'.ownBlock = some k → k ≠ y.b := fun k hk => by
    obtain ⟨cur, h1⟩ := ho.block hk
    obtain ⟨cur2, h2, _⟩ := hL1
    exact cells_ne h1 h2 (Ne.symm tne_in_int)
  have hO : ∀ k, v.ownBlock = some k → O k := fun k hk => h.ov n v k hv hk
  refine ⟨⟨?_, hL, by simp [setLs, h.len], fun j m u hm hu => ?_, fun i j u u2 k hi hj hk hk2 => ?_, (h.ma.fr hf (fun e => (hne _ e).2.2.1 rfl)).fr hs n2, (h.mc.fr hf (fun e => (hne _ e).2.2.2.1 rfl)).fr hs n3, (h.mt.fr hf (fun e => (hne _ e).2.2.2.2 rfl)).fr hs n4, h.ac, h.at_, h.ct, .inl h.oB, .inl h.ob, .inl h.oa, .inl h.oc, .inl h.ot, fun i u k hu hk => ?_, fun k hk => ?_⟩, ?_⟩
  · have := (h.row.fr hf (fun e => (hne _ e).1 rfl)).fr hs n1
    simpa [setLs] using this
  · by_cases e : j = n
    · subst e
      have hm : (s.ls.set j { l with o := o' })[j]? = some m := hm
      rw [List.getElem?_set_self hln] at hm
      have hu : (y.vs.set j v')[j]? = some u := hu
      rw [List.getElem?_set_self hvn] at hu
      cases hm; cases hu
      exact own_fr2 ho hs hv'b
    · have hm : (s.ls.set n { l with o := o' })[j]? = some m := hm
      rw [List.getElem?_set_ne (fun q => e q.symm)] at hm
      have hu : (y.vs.set n v')[j]? = some u := hu
      rw [List.getElem?_set_ne (fun q => e q.symm)] at hu
      exact own_fr2 (own_fr2 (h.ord j m u hm hu) hf (fun k hk hk2 => e (h.apart j n u v k hu hv hk hk2))) hs (fun k hk => n5 j u k hu hk)
  · have hi : (y.vs.set n v')[i]? = some u := hi
    have hj : (y.vs.set n v')[j]? = some u2 := hj
    by_cases ei : i = n
    · by_cases ej : j = n
      · omega
      · subst ei
        rw [List.getElem?_set_self hvn] at hi
        rw [List.getElem?_set_ne (fun q => ej q.symm)] at hj
        cases hi
        rcases hb k hk with h1 | h1
        · exact h.apart i j v u2 k hv hj h1 hk2
        · have := h.top k (h.ov j u2 k hj hk2); omega
    · by_cases ej : j = n
      · subst ej
        rw [List.getElem?_set_self hvn] at hj
        rw [List.getElem?_set_ne (fun q => ei q.symm)] at hi
        cases hj
        rcases hb k hk2 with h1 | h1
        · exact h.apart i j u v k hi hv hk h1
        · have := h.top k (h.ov i u k hi hk); omega
      · rw [List.getElem?_set_ne (fun q => ei q.symm)] at hi
        rw [List.getElem?_set_ne (fun q => ej q.symm)] at hj
        exact h.apart i j u u2 k hi hj hk hk2
  · have hu : (y.vs.set n v')[i]? = some u := hu
    by_cases ei : i = n
    · subst ei
      rw [List.getElem?_set_self hvn] at hu
      cases hu
      rcases hb k hk with h1 | h1
      · exact .inl (hO k h1)
      · exact .inr ⟨h1, by rw [hsz]; exact ho.ltk hk⟩
    · rw [List.getElem?_set_ne (fun q => ei q.symm)] at hu
      exact .inl (h.ov i u k hu hk)
  · rcases hk with hk | hk
    · rw [hsz]; exact Nat.lt_of_lt_of_le (h.top k hk) hf.size
    · exact hk.2
  · exact (hf.mono (fun k _ hk => hO k hk)).trans (hs.mono (fun k _ hk => by subst hk; exact h.ob))
theorem info_int : (Try.prog.info? 3).map (fun i => (i.zero, i.size, i.bytes)) = some (some (.int .i64 0), 1, 8) := by kernel_rfl
/-- What an insert leaves. -/
def InP (W : World) (O : Nat → Prop) (B : Nat) (s : IS) (n : Nat) (l : IL) (o' : List Int) (w' : World) : Prop := ∃ y', CM w' (Gr O W w') B y' (setLs s n { l with o := o' }) ∧ Fr O W w'
theorem gr_grow {O : Nat → Prop} {W W1 w' : World} (h : W.heap.size ≤ W1.heap.size) : ∀ k, Gr O W1 w' k → Gr O W w' k := fun k hk => hk.imp id fun h1 => ⟨Nat.le_trans h h1.1, h1.2⟩
set_option maxRecDepth 100000 in
set_option maxHeartbeats 2000000 in
theorem insert_first {W : World} {O : Nat → Prop} {B : Nat} {y : LY} {s : IS} (h : CM W O B y s) {n : Nat} {l : IL} (hl : s.ls[n]? = some l) (ho : l.o.length ≤ 100) (x : Int) :
    Calls Try.prog 49 #[.pointer (some ⟨y.b, n * 4, none⟩), .int .i64 x, .bool true] W fun e w' => e = .returned (.tuple #[]) ∧ InP W O B s n l (x :: l.o) w' := by
  obtain ⟨a, cap, hv⟩ := h.vs hl
  have HR := Lib.hid (RowAt.new W 3 #[.int .i64 x])
  have HFA : Hid (Fr No W (W.alloc (.cells #[.int .i64 x] 3))) := Fr.alloc _ _ _
  have h1 := h.no HFA.out
  have HI := Lib.hid (insert0 (h1.ord n l _ hl hv) (by omega) HR.out (fun e => by have := h.top _ (h.ov n _ _ hv e); omega))
  have q1 : W.cell? ⟨y.b, n * 4 + 1, none⟩ = some (.slice a l.o.length cap) := (h.lines.cells hl hv).2.1
  have HM := Lib.hid h1
  have HV := Lib.hid hv
  have HL := Lib.hid hl
  have HS : Hid (W.heap.size ≤ (W.alloc (.cells #[.int .i64 x] 3)).heap.size) := by show _ ≤ _; simp
  clear h h1 hv hl ho
  go_enter Try.func49, Try.ntmps49
  go_wp2_with (go_at_call 61; refine HI.out.mono ?_; rintro e w2 ⟨g, cap', rfl, p1, p2, p3, p4⟩; have P1 := Lib.hid p1; have P2 := Lib.hid p2; have P3 := Lib.hid p3; have f1 : w2.frozen? ⟨y.b, n * 4 + 1, none⟩ = false := (HM.out.lines.fr p2 (fun e => (OL.ne HM.out (HM.out.ord n _ _ HL.out HV.out) e).2.1 rfl)).frozen _; have f2 : ∃ u, w2.cell? ⟨y.b, n * 4 + 1, none⟩ = some u := ⟨_, ((HM.out.lines.fr p2 (fun e => (OL.ne HM.out (HM.out.ord n _ _ HL.out HV.out) e).2.1 rfl)).cells HL.out HV.out).2.1⟩; obtain ⟨u, f2⟩ := f2; clear p1 p2 p3 p4)
  have hc := HM.out.setO HL.out HV.out P2.out P1.out (fun k hk => by cases hk; exact P3.out)
  refine bodyPost_ret (results_none rfl _ _ _) rfl ⟨rfl, _, hc.1.mono (gr_grow HS.out) (fun k hk => ?_), (HFA.out.any.trans hc.2)⟩
  rcases hk with hk | hk
  · exact hc.1.top k (.inl hk)
  · exact hk.2
set_option maxRecDepth 100000 in
set_option maxHeartbeats 2000000 in
theorem insert_last {W : World} {O : Nat → Prop} {B : Nat} {y : LY} {s : IS} (h : CM W O B y s) {n : Nat} {l : IL} (hl : s.ls[n]? = some l) (ho : l.o.length ≤ 100) (x : Int) :
    Calls Try.prog 49 #[.pointer (some ⟨y.b, n * 4, none⟩), .int .i64 x, .bool false] W fun e w' => e = .returned (.tuple #[]) ∧ InP W O B s n l (l.o ++ [x]) w' := by
  obtain ⟨a, cap, hv⟩ := h.vs hl
  obtain ⟨it, hi0, hz0, hz1, hz2⟩ := info_parts info_int
  have HT0 := Lib.hid hi0
  have HT1 := Lib.hid hz0
  have HT2 := Lib.hid hz1
  have HT3 := Lib.hid hz2
  clear hi0 hz0 hz1 hz2
  have HR := Lib.hid (RowAt.new W 3 #[.int .i64 x])
  have HFA : Hid (Fr No W (W.alloc (.cells #[.int .i64 x] 3))) := Fr.alloc _ _ _
  have h1 := h.no HFA.out
  have HOW := Lib.hid (h1.ord n l _ hl hv)
  change Hid (World.ownsRow _ 0 3 1 _ l.o.length (iv l.o)) at HOW
  have q1 : W.cell? ⟨y.b, n * 4 + 1, none⟩ = some (.slice a l.o.length cap) := (h.lines.cells hl hv).2.1
  have HM := Lib.hid h1
  have HV := Lib.hid hv
  have HL := Lib.hid hl
  have HLN := Lib.hid ho
  have HS : Hid (W.heap.size ≤ (W.alloc (.cells #[.int .i64 x] 3)).heap.size) := by show _ ≤ _; simp
  have HSZ : Hid ((W.alloc (.cells #[.int .i64 x] 3)).heap.size = W.heap.size + 1) := by show _ = _; simp
  have HNW : Hid (∀ j u, [Value.int .i64 x][j]? = some u → (W.alloc (.cells #[.int .i64 x] 3)).cell? ((⟨W.heap.size, 0, none⟩ : Addr).add j) = some u) := fun j u hj => World.news_of_block HR.out j u hj
  clear h h1 hv hl ho
  go_enter Try.func49, Try.ntmps49
  go_wp2_with (at_builtin; refine wpList_append_lies _ rfl (.tmp 21) (.tmp 23) 64 rfl 0 3 it (.int .i64 0) 1 8 Try.underlying64 HT0.out HT1.out HT2.out HT3.out rfl (by decide) (.slice a l.o.length cap) l.o.length (iv l.o) rfl HOW.out ⟨W.heap.size, 0, none⟩ 1 1 [.int .i64 x] rfl rfl HNW.out (by simp [Value.oneCell']) (by decide) (by have := HLN.out; unfold maxLen; omega) (by have := HLN.out; omega) (Nat.zero_le _) (W.heap.size + 1) HSZ.out ?_; intro g cap' w2 hown hgrow hat hlt; have P2 : Hid (Fr (fun k => (Value.slice a l.o.length cap).ownBlock = some k) _ w2) := Fr.grown hgrow (fun k e => e); have P1 := Lib.hid hown; have P3 := Lib.hid hat; have f1 : w2.frozen? ⟨y.b, n * 4 + 1, none⟩ = false := (HM.out.lines.fr P2.out (fun e => (OL.ne HM.out (HM.out.ord n _ _ HL.out HV.out) e).2.1 rfl)).frozen _; have f2 : ∃ u, w2.cell? ⟨y.b, n * 4 + 1, none⟩ = some u := ⟨_, ((HM.out.lines.fr P2.out (fun e => (OL.ne HM.out (HM.out.ord n _ _ HL.out HV.out) e).2.1 rfl)).cells HL.out HV.out).2.1⟩; obtain ⟨u, f2⟩ := f2; clear hown hgrow hat hlt)
  have ho' : OL w2 (.slice (some ⟨g, 0, none⟩) (l.o.length + 1) cap') (l.o ++ [x]) := by
    have := P1.out
    unfold OL
    rw [List.length_append, show iv (l.o ++ [x]) = iv l.o ++ [.int .i64 x] from by simp [iv]]
    exact this
  have hc := HM.out.setO HL.out HV.out P2.out ho' (fun k hk => by cases hk; exact P3.out.imp id (fun e => by rw [e, HSZ.out]; exact Nat.le_refl _))
  go_end0
  refine ⟨rfl, _, hc.1.mono (gr_grow HS.out) (fun k hk => ?_), (HFA.out.any.trans hc.2)⟩
  rcases hk with hk | hk
  · exact hc.1.top k (.inl hk)
  · exact hk.2
end Go.Proofs.Ytbnchmhhhildnaa
