/- Interrupts: sum, Contains, find. -/
import Derived.Test.YtbnchmhhhildnaaXf
namespace Go.Proofs.Ytbnchmhhhildnaa
open Go.RowKit Go.Maps
set_option linter.unusedVariables false

theorem own_shape {W : World} {lo size : Nat} {t : TypeId} {v : Value} {n : Nat} {xs : List Value} (h : W.ownsRow lo t size v n xs) : ∃ a c, v = .slice a n c := by
  rcases h.2 with ⟨rfl, h0⟩ | ⟨g, cap, cur, rfl, _⟩
  · exact ⟨_, _, by rw [h0]⟩
  · exact ⟨_, _, rfl⟩
theorem own_cells {W : World} {lo n s g cap : Nat} {t : TypeId} {xs : List Value} (h : W.ownsRow lo t s (.slice (some ⟨g, 0, none⟩) n cap) n xs) {i : Nat} {u : Value} (hi : xs[i]? = some u) : W.cell? ⟨g, i, none⟩ = some u := by
  rcases h.2 with ⟨h1, _⟩ | ⟨g', cap', cur, h1, _, h3, _, _, h6, h7⟩
  · cases h1
  · injection h1 with h1 _ _
    injection h1 with h1
    injection h1 with h1 _ _
    subst h1
    rw [cell_of_row W g i cur t (0, 0) h3]
    have e : (cur.toList.take (n * s))[i]? = some u := by rw [h7]; exact hi
    rw [List.getElem?_take] at e
    split at e
    · rw [Array.getElem?_toList] at e; exact e
    · cases e
theorem own_slice2 {W : World} {lo size n : Nat} {t : TypeId} {v : Value} {xs : List Value} (h : W.ownsRow lo t size v n xs) (hn : n ≠ 0) : ∃ g cap, v = .slice (some ⟨g, 0, none⟩) n cap := by
  rcases h.2 with ⟨_, h1⟩ | ⟨g, cap, cur, h1, _⟩
  · exact absurd h1 hn
  · exact ⟨g, cap, h1⟩
theorem OL.cell {W : World} {g cap : Nat} {o : List Int} (h : OL W (.slice (some ⟨g, 0, none⟩) o.length cap) o) {i : Nat} {x : Int} (hi : o[i]? = some x) : W.cell? ⟨g, i, none⟩ = some (.int .i64 x) :=
  own_cells h (by simp [iv, hi])
/-- The sum of a line's counts of attachments. -/
def slq (f : Int × Int → Int) (n : Int) : List Int → Int
  | [] => 0
  | x :: r => f (n, x) + slq f n r
theorem slq_app (f : Int × Int → Int) (n : Int) (l m : List Int) : slq f n (l ++ m) = slq f n l + slq f n m := by
  induction l with
  | nil => simp [slq]
  | cons a r ih => rw [List.cons_append, slq, slq, ih]; omega
theorem slq_take (f : Int × Int → Int) (n : Int) {l : List Int} {i : Nat} {x : Int} (h : l[i]? = some x) : slq f n (l.take (i + 1)) = slq f n (l.take i) + f (n, x) := by
  rw [List.take_add_one, h, slq_app]; simp [slq]
theorem slq_le (f : Int × Int → Int) (n : Int) (h0 : ∀ k, 0 ≤ f k) (h1 : ∀ k, f k ≤ 1000) (l : List Int) : 0 ≤ slq f n l ∧ slq f n l ≤ 1000 * l.length := by
  induction l with
  | nil => simp [slq]
  | cons a r ih =>
    have := h0 (n, a); have := h1 (n, a)
    rw [slq]; simp; omega
/-- The sum of a line's counts. -/
def sumL (s : IS) (n : Int) (o : List Int) : Int := s.cn (n, -1) + slq s.cn n o
theorem nodup_le {n : Nat} {l : List Int} (hd : l.Nodup) (h : ∀ x ∈ l, 0 ≤ x ∧ x < n) : l.length ≤ n := by
  induction n generalizing l with
  | zero => cases l with
    | nil => simp
    | cons a r => have := h a (by simp); omega
  | succ n ih =>
    by_cases hm : (n : Int) ∈ l
    · have h1 := ih (l := l.erase (n : Int)) (hd.erase _) (fun x hx => by
        have h2 := h x (List.mem_of_mem_erase hx)
        have h3 : x ≠ n := fun e => by subst e; exact (List.Nodup.mem_erase_iff hd).1 hx |>.1 rfl
        omega)
      rw [List.length_erase_of_mem hm] at h1
      omega
    · have := ih hd (fun x hx => by
        have h2 := h x hx
        have h3 : x ≠ n := fun e => by subst e; exact hm hx
        omega)
      omega
theorem IOk.olen {s : IS} (h : IOk s) {n : Nat} {l : IL} (hl : s.ls[n]? = some l) : l.o.length ≤ 100 :=
  nodup_le (h.dup n l hl) fun x hx => by
    obtain ⟨t, ht, _⟩ := (h.ord n l x hl).1 hx
    exact h.key _ (get_mem ht)
theorem IOk.oW {s : IS} (h : IOk s) {n : Nat} {l : IL} (hl : s.ls[n]? = some l) {x : Int} (hx : x ∈ l.o) : isW x := by
  obtain ⟨t, ht, _⟩ := (h.ord n l x hl).1 hx
  have := h.key _ (get_mem ht)
  exact wf6 (by simp at this; omega) (by simp at this; omega)
theorem IOk.nW {s : IS} (h : IOk s) {n : Nat} {l : IL} (hl : s.ls[n]? = some l) : isW (n : Int) := isW_nat (by have := (List.getElem?_eq_some_iff.1 hl).1; have := h.n1; omega)
theorem isW_m1 : isW (-1) := by decide
theorem CM.vs {W : World} {O : Nat → Prop} {B : Nat} {y : LY} {s : IS} (h : CM W O B y s) {n : Nat} {l : IL} (hl : s.ls[n]? = some l) : ∃ a cap, y.vs[n]? = some (.slice a l.o.length cap) := by
  have hn := (List.getElem?_eq_some_iff.1 hl).1
  obtain ⟨v, hv⟩ : ∃ v, y.vs[n]? = some v := ⟨_, List.getElem?_eq_getElem (by rw [h.len]; exact hn)⟩
  obtain ⟨a, c, e⟩ := own_shape (h.ord n l v hl hv)
  exact ⟨a, c, by rw [hv, e]⟩
set_option maxRecDepth 100000 in
set_option maxHeartbeats 1000000 in
theorem sum_ok {W : World} {O : Nat → Prop} {B : Nat} {y : LY} {s : IS} (h : CM W O B y s) (hk : IOk s) {n : Nat} {l : IL} (hl : s.ls[n]? = some l) : Calls Try.prog 40 #[.pointer (some ⟨B, 0, none⟩), .int .i64 (n : Int)] W fun e w' => e = .returned (.int .i64 (sumL s n l.o)) ∧ W = w' := by
  obtain ⟨a, cap, hv⟩ := h.vs hl
  have hn := (List.getElem?_eq_some_iff.1 hl).1
  have n0 : (0 : Int) ≤ (n : Int) := by omega
  have n1 : (n : Int) < (s.ls.length : Nat) := by omega
  have c0 : W.cell? ⟨B, 0, none⟩ = some (.slice (some ⟨y.b, 0, none⟩) s.ls.length y.cap) := h.row.cell 0
  have c2 : W.cell? ⟨B, 2, none⟩ = some (.map (some y.c)) := h.row.cell 2
  have q1 : W.cell? ⟨y.b, n * 4 + 1, none⟩ = some (.slice a l.o.length cap) := (h.lines.cells hl hv).2.1
  have HA := Lib.hid (h.mc.look (k := ((n : Int), (-1 : Int))) ⟨hk.nW hl, isW_m1⟩)
  have HB := Lib.hid (fun (i : Nat) (x : Int) (hx : l.o[i]? = some x) => h.mc.look (k := ((n : Int), x)) ⟨hk.nW hl, hk.oW hl (List.mem_of_getElem? hx)⟩)
  have HO := Lib.hid (h.ord n l _ hl hv)
  have HL := Lib.hid (hk.olen hl)
  have HS := Lib.hid (slq_le s.cn n hk.c0 hk.c1)
  have HC : Hid (0 ≤ s.cn ((n : Int), -1) ∧ s.cn ((n : Int), -1) ≤ 1000) := ⟨hk.c0 _, hk.c1 _⟩
  have HV : Hid (∀ o, sumL s n o = s.cn ((n : Int), -1) + slq s.cn n o) := fun o => rfl
  clear h hk hv hn
  change Hid (Sem.run Try.prog (Instr.lookup 59 (.map (some y.c)) (.agg #[.int .i64 (n : Int), .int .i64 (-1)]) false) W = _) at HA
  change Hid (∀ (i : Nat) (x : Int), l.o[i]? = some x → Sem.run Try.prog (Instr.lookup 59 (.map (some y.c)) (.agg #[.int .i64 (n : Int), .int .i64 x]) false) W = _) at HB
  generalize hT : sumL s n l.o = T
  have HT := Lib.hid hT
  clear hT
  generalize s.cn ((n : Int), -1) = z at HA HC HV
  go_enter Try.func40, Try.ntmps40
  go_wp2_with (at_lookup; refine wpList_look rfl _ _ _ false rfl _ _ rfl rfl _ HA.out ?_)
  go_loopw [5, 7, 24] (fun v5 v7 vi wr => ∃ i : Nat, vi = .int .i64 i ∧ Hid (v5 = .int .i64 (z + slq s.cn n (l.o.take i)) ∧ i ≤ l.o.length) ∧ W = wr) (fun _ _ vi _ => l.o.length - (intOf vi).toNat)
  case atStart => exact ⟨0, rfl, ⟨by simp [slq], Nat.zero_le _⟩, rfl⟩
  case round =>
    obtain ⟨i, rfl, HI, rfl⟩ := hrel
    have i0 : (0 : Int) ≤ i := by omega
    by_cases hi : i < l.o.length
    · have i1 : (i : Int) < (l.o.length : Nat) := by omega
      have i2 : (i : Int) ≤ 1000 := by have := HL.out; omega
      have hx := List.getElem?_eq_getElem hi
      generalize l.o[i] = x at hx
      obtain ⟨g, cap', e⟩ := own_slice2 HO.out (by omega)
      cases e
      have qx : W.cell? ⟨g, i, none⟩ = some (.int .i64 x) := OL.cell HO.out hx
      have HX := Lib.hid (HB.out i x hx)
      have HQ : Hid (slq s.cn n (l.o.take (i + 1)) = slq s.cn n (l.o.take i) + s.cn ((n : Int), x)) := slq_take _ _ hx
      have hle := HS.out (l.o.take i)
      have hle2 := HS.out (l.o.take (i + 1))
      have hl1 : (l.o.take i).length ≤ 100 := by rw [List.length_take]; have := HL.out; omega
      have hl2 : (l.o.take (i + 1)).length ≤ 100 := by rw [List.length_take]; have := HL.out; omega
      have HMS : Hid (l.o.length - (intOf (Value.int IntKind.i64 ((i : Int) + 1))).toNat < l.o.length - (intOf (Value.int IntKind.i64 (i : Int))).toNat) := by
        show _ < _
        simp only [intOf]
        omega
      obtain ⟨e5, hi2⟩ := HI.out
      subst e5
      generalize slq s.cn n (l.o.take i) = P at HQ hle
      generalize s.cn ((n : Int), x) = u at HX HQ
      have hw : IntKind.i64.wrap (z + P + u) = z + P + u := IntWalk.i64_in _ (by have := HQ.out; have := HC.out; omega)
      have HI1 : Hid (i + 1 ≤ l.o.length) := hi
      clear hle hle2 hl1 hl2 hi hx HI
      go_wp2_with (at_lookup; refine wpList_look rfl _ _ _ false rfl _ _ rfl rfl _ HX.out ?_)
      go_roundw
      case rel => exact ⟨i + 1, by push_cast; rfl, ⟨by rw [HQ.out, ← Int.add_assoc], HI1.out⟩, trivial⟩
      case measure => exact HMS.out
    · have i1 : ¬ (i : Int) < (l.o.length : Nat) := by omega
      have he : i = l.o.length := by have := HI.out.2; omega
      obtain ⟨e5, hi2⟩ := HI.out
      rw [he, List.take_length, ← HV.out, HT.out] at e5
      subst e5
      clear hi he hi2 HI
      go_wp2
      go_ret
      exact ⟨rfl, rfl⟩
end Go.Proofs.Ytbnchmhhhildnaa
