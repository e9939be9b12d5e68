/- Package sched: sortBy where nothing differs; lists of candidates. -/
import Derived.Test.YtjaaljcdaamcjaaGreatDo
import Derived.Deep.AppendLies
import Derived.Deep.RegionHeldLaw
namespace Go.Proofs.YtjaaljcdaamcjaaGreat
open Go.RowKit Go.Proofs.YtjaaljcdaamcjaaGreat.Pa
set_option linter.unusedVariables false

def encC : List Cd → List Value
  | [] => []
  | c :: r => c.cells.toList ++ encC r
theorem encC_len : ∀ l, (encC l).length = l.length * 6
  | [] => rfl
  | c :: r => by rw [encC, List.length_append, encC_len r, List.length_cons, show c.cells.toList.length = 6 from rfl]; omega
theorem encC_app : ∀ l m, encC (l ++ m) = encC l ++ encC m
  | [], m => rfl
  | c :: r, m => by rw [List.cons_append, encC, encC, encC_app r m, List.append_assoc]
theorem encC_get : ∀ (l : List Cd) (i j : Nat) (c : Cd) (u : Value), l[i]? = some c → c.cells[j]? = some u → (encC l)[i * 6 + j]? = some u
  | c0 :: r, 0, j, c, u, h, hu => by
    rw [List.getElem?_cons_zero] at h
    injection h with h
    subst h
    have hj : j < 6 := by have := (Array.getElem?_eq_some_iff.1 hu).1; exact this
    rw [encC, List.getElem?_append_left (by show 0 * 6 + j < 6; omega), Nat.zero_mul, Nat.zero_add]
    simpa using hu
  | c0 :: r, i + 1, j, c, u, h, hu => by
    rw [List.getElem?_cons_succ] at h
    rw [encC, List.getElem?_append_right (by show 6 ≤ (i + 1) * 6 + j; omega), show (i + 1) * 6 + j - c0.cells.toList.length = i * 6 + j from by show (i + 1) * 6 + j - 6 = _; omega]
    exact encC_get r i j c u h hu
theorem info_cd : (Tryz.prog.info? 177).map (fun i => (i.zero, i.size, i.bytes)) = some (some (.agg cd0), 6, 48) := by kernel_rfl
theorem dat_of_own {W : World} {lo d m cap : Nat} {cs : List Cd} (h : W.ownsRow lo 177 6 (.slice (some ⟨d, 0, none⟩) m cap) m (encC cs)) : DAt W d cs := by
  refine ⟨(h.lt d rfl).2, fun i c hc j u hu => ?_⟩
  have := h.cells (g := d) rfl (i * 6 + j) u (encC_get cs i j c u hc hu)
  rw [Addr.add_mid, Nat.zero_add] at this
  exact this
section
variable {S : Nat} {s : ST} {C : CF} {n T : Nat} {L : List Ch} {ls : Nat → List Nat} {mk : Nat → Nat} {en : Nat → Option En} {xs xn g : Nat} {W W' : World}
set_option maxRecDepth 100000 in
theorem sortby_flat (hs : SI S s C T L ls mk en W) (tn : T ≤ n) (bs : RowAt W xs 27 #[.pointer (some ⟨S, 0, none⟩)]) (bn : RowAt W xn 2 #[.int .i64 (n : Int)])
    (gr : RowAt W g 180 #[.func (.func 100) #[] #[], .func (.func 101) #[] #[], .func (.func 102) #[] #[.pointer (some ⟨xs, 0, none⟩), .pointer (some ⟨xn, 0, none⟩)]])
    (ne : xs ≠ s.mb ∧ xn ≠ s.mb ∧ g ≠ s.mb) (bu : BudOk C) (tm : n ≤ 1099511627776) (d cap k : Nat) (cs : List Cd) (hd : DAt W d cs) (hdm : d ≠ s.mb) (hk : k < C.np) (hl : cs.length < 20) (hflat : ∀ x ∈ cs, ∀ y ∈ cs, Flat k x y) :
    Calls Tryz.prog 99 #[.slice (some ⟨d, 0, none⟩) cs.length cap, .slice (some ⟨g, 0, none⟩) 3 3] W fun e w' => (∃ v, e = .returned v) ∧ (∃ T', T' ≤ n ∧ SI S s C T' L ls mk en w') ∧ Fr (fun j => j = s.mb) W w' := by
  have HC : Hid (CX S s C n L ls mk en xs xn g W.heap.size T (W.alloc (.cells #[.slice (some ⟨g, 0, none⟩) 3 3] 210))) :=
    ⟨hs.fr (Fr.alloc Non _ _) (fun _ _ e => e), tn, bs.fr (Fr.alloc Non _ _) id, bn.fr (Fr.alloc Non _ _) id, gr.fr (Fr.alloc Non _ _) id, RowAt.new _ _ _, ⟨ne.1, ne.2.1, ne.2.2, by have := hs.met.lt; omega⟩, bu, tm⟩
  have HF : Hid (Fr Non W (W.alloc (.cells #[.slice (some ⟨g, 0, none⟩) 3 3] 210))) := frA (Fr.refl _ _)
  have HSS := Lib.hid (sortstable_flat HC.out d cap k cs (hd.fr HF.out id) hdm hk hl hflat)
  clear hs tn bs bn gr ne bu tm hd hdm hk hl hflat
  generalize cs.length = m at HSS ⊢
  unfold cmpV2 at HSS
  go_enter Tryz.func99, Tryz.ntmps99
  have hmf := hmf_any
  go_wp2_with (go_at_call 136; refine HSS.out.mono ?_; rintro e w1 ⟨rfl, hs1, hf1⟩; have HS1 := Lib.hid hs1; have HF1 := Lib.hid hf1; clear hs1 hf1)
  go_end0
  obtain ⟨T', h⟩ := HS1.out
  exact ⟨⟨_, rfl⟩, ⟨T', h.tn, h.si⟩, (HF.out.mono (fun _ _ e => (nomatch e))).trans HF1.out⟩
end
end Go.Proofs.YtjaaljcdaamcjaaGreat
