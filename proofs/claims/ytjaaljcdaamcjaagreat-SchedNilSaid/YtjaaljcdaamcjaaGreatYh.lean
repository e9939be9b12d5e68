/- The contracts of put, cut and drop. -/
import Derived.Test.YtjaaljcdaamcjaaGreatYg
import Derived.Deep.RegionWith
import Derived.Deep.RegionHeld3
namespace Go.Proofs.YtjaaljcdaamcjaaGreat.Rd
open Go.RowKit
set_option linter.unusedVariables false

/-- A queue at block B whose lists are these; its masks and its count are those of q. -/
def Kept (B : Nat) (q : QS) (ls : Nat → List Nat) (W w' : World) : Prop := W.grownBy w' (some B) ∧ ∃ q', QAt w' B q' ∧ RInv q' ls ∧ q'.mask = q.mask ∧ q'.count = q.count
def KeptE (B : Nat) (q : QS) (ls : Nat → List Nat) (W : World) (e : Ending) (w' : World) : Prop := (∃ v, e = .returned v) ∧ Kept B q ls W w'

set_option maxHeartbeats 1000000 in
theorem put_new {W : World} {B : Nat} {q : QS} {ls : Nat → List Nat} (h : QAt W B q) (hi : RInv q ls) (t p : Nat) (ht : t < 256) (hp : p < 256) (hn : ∀ i, t ∉ ls i) (he : ls p = []) (front : Bool) :
    Calls Tryz.prog 160 #[.pointer (some ⟨B, 0, none⟩), .int .i64 t, .int .i64 p, .bool front] W (KeptE B q (ins ls t p front) W) := by
  have hc := h.prio t ht
  have hz := h.frozen (772 + t)
  have t0 : (0 : Int) ≤ t := by omega
  have t1 : (t : Int) < 256 := by omega
  have p0 : (0 : Int) ≤ p := by omega
  have p1 : (p : Int) < 256 := by omega
  have H1 := Lib.hid (h.setPrio t p ht)
  have HR := Lib.hid (hi.putA ht hp hn he front)
  have HB : Hid ((q.filled (p / 64)).testBit (p % 64) = false) := by show _ = _; rw [hi.bit p hp, he]; rfl
  have HF := Lib.hid hi.flt
  clear h hi
  go_enter Tryz.func160, Tryz.ntmps160
  go_upto_region 1 with (fail)
  have G1 := Lib.hid (grown_set W B (772 + t) (.int .i64 p))
  clear hc hz
  generalize World.setCell W _ _ = w1 at H1 G1 ⊢
  go_upto_region 2 with (go_at_call 180; refine (has_any H1.out p hp (HF.out _)).mono ?_; rw [HB.out]; rintro e w' ⟨rfl, rfl⟩)
  go_upto_region 3 with (go_at_call 181; refine (alone_any H1.out t ht).mono ?_; rintro e w2 ⟨⟨v, rfl⟩, g2, h2⟩)
  have H2 := Lib.hid h2
  have G2 := Lib.hid (grown_trans G1.out g2)
  clear g2 h2 H1 G1
  go_upto_region 4 with (go_at_call 182; refine (add_any H2.out p hp (HF.out _)).mono ?_; rintro e w3 ⟨⟨v, rfl⟩, g3, h3⟩)
  have HC := Lib.hid (h3.heads p hp)
  have HZ := Lib.hid (h3.frozen (516 + p))
  have H3 := Lib.hid h3
  have G3 := Lib.hid (grown_trans G2.out g3)
  have hc := HC.out
  have hz := HZ.out
  clear g3 h3 H2 G2
  go_wp2
  go_end0
  exact ⟨⟨_, rfl⟩, grown_trans G3.out (grown_set _ _ _ _), _, H3.out.setHeads p t hp, HR.out, rfl, rfl⟩

set_option maxHeartbeats 1000000 in
theorem put_old {W : World} {B : Nat} {q : QS} {ls : Nat → List Nat} (h : QAt W B q) (hi : RInv q ls) (t p : Nat) (ht : t < 256) (hp : p < 256) (hn : ∀ i, t ∉ ls i) (he : ls p ≠ []) (front : Bool) :
    Calls Tryz.prog 160 #[.pointer (some ⟨B, 0, none⟩), .int .i64 t, .int .i64 p, .bool front] W (KeptE B q (ins ls t p front) W) := by
  have hc := h.prio t ht
  have hz := h.frozen (772 + t)
  have t0 : (0 : Int) ≤ t := by omega
  have t1 : (t : Int) < 256 := by omega
  have p0 : (0 : Int) ≤ p := by omega
  have p1 : (p : Int) < 256 := by omega
  have H1 := Lib.hid (h.setPrio t p ht)
  have HR := Lib.hid (hi.putB ht hp hn he front)
  have HB : Hid ((q.filled (p / 64)).testBit (p % 64) = true) := by show _ = _; rw [hi.bit p hp]; simpa using he
  have HF := Lib.hid hi.flt
  obtain ⟨hd, r, hr⟩ : ∃ a r, ls p = a :: r := by
    cases hl : ls p with
    | nil => exact absurd hl he
    | cons a r => exact ⟨a, r, rfl⟩
  have hhd := hi.head p hd r hr
  have hrg := hi.ring p
  rw [hr] at hrg
  have hdl : hd < 256 := (hi.mem p hd (by rw [hr]; simp)).1
  have hbl : q.before hd < 256 := (hi.mem p _ (by rw [hr]; exact hrg.before_mem)).1
  have HD := Lib.hid hhd
  have HBL := Lib.hid hbl
  have d0 : (0 : Int) ≤ hd := by omega
  have d1 : (hd : Int) < 256 := by omega
  clear h hi hrg hr he hhd hbl hn
  go_enter Tryz.func160, Tryz.ntmps160
  go_upto_region 1 with (fail)
  have G1 := Lib.hid (grown_set W B (772 + t) (.int .i64 p))
  clear hc hz
  generalize World.setCell W _ _ = w1 at H1 G1 ⊢
  go_upto_region 5 with (go_at_call 180; refine (has_any H1.out p hp (HF.out _)).mono ?_; rw [HB.out]; rintro e w' ⟨rfl, rfl⟩)
  have hc : w1.cell? ⟨B, 516 + p, none⟩ = some (.int .i64 hd) := by rw [H1.out.heads p hp]; show some (Value.int .i64 (q.heads p)) = _; rw [HD.out]
  have HQD : Hid (QAt w1.drew B { q with prio := upd q.prio t p }) := H1.out
  go_region_with (go_at_call 183; refine (link_any HQD.out t hd ht hdl HBL.out).mono ?_; rintro e w2 ⟨⟨v, rfl⟩, g2, h2⟩)
  have H2 := Lib.hid h2
  have G2 := Lib.hid (grown_trans G1.out (grown_trans (grown_drew _ _) g2))
  clear g2 h2 H1 G1 HQD hc
  have HC := Lib.hid (H2.out.heads p hp)
  have HZ := Lib.hid (H2.out.frozen (516 + p))
  cases front
  · go_wp2
    go_end0
    refine ⟨⟨_, rfl⟩, G2.out, _, H2.out, ?_, rfl, rfl⟩
    have := HR.out
    simp only [putB, HD.out, Bool.false_eq_true, if_false] at this
    exact this
  · have hc := HC.out
    have hz := HZ.out
    go_wp2
    go_end0
    refine ⟨⟨_, rfl⟩, grown_trans G2.out (grown_set _ _ _ _), _, H2.out.setHeads p t hp, ?_, rfl, rfl⟩
    have := HR.out
    simp only [putB, HD.out, if_true] at this
    exact this
theorem put_any {W : World} {B : Nat} {q : QS} {ls : Nat → List Nat} (h : QAt W B q) (hi : RInv q ls) (t p : Nat) (ht : t < 256) (hp : p < 256) (hn : ∀ i, t ∉ ls i) (front : Bool) :
    Calls Tryz.prog 160 #[.pointer (some ⟨B, 0, none⟩), .int .i64 t, .int .i64 p, .bool front] W (KeptE B q (ins ls t p front) W) := by
  by_cases he : ls p = []
  · exact put_new h hi t p ht hp hn he front
  · exact put_old h hi t p ht hp hn he front

set_option maxHeartbeats 1000000 in
theorem cut_one {W : World} {B : Nat} {q : QS} {ls : Nat → List Nat} (h : QAt W B q) (hi : RInv q ls) (t p : Nat) (he : ls p = [t]) :
    Calls Tryz.prog 198 #[.pointer (some ⟨B, 0, none⟩), .int .i64 t] W (KeptE B q (del ls t) W) := by
  obtain ⟨ht, hp, hpr⟩ := hi.mem p t (by rw [he]; simp)
  have hat : q.after t = t := by have := hi.ring p; rw [he] at this; exact (this : Lk q.after q.before t t).1
  have c1 : W.cell? ⟨B, 772 + t, none⟩ = some (.int .i64 p) := by rw [h.prio t ht, hpr]
  have c2 : W.cell? ⟨B, t, none⟩ = some (.int .i64 t) := by rw [h.after t ht, hat]
  have t0 : (0 : Int) ≤ t := by omega
  have t1 : (t : Int) < 256 := by omega
  have tt : ((t : Int) == t) = true := by simp
  have HQ : Hid (QAt W.drew B q) := h
  have HR := Lib.hid (hi.cutA he)
  have HF := Lib.hid hi.flt
  clear h hi he hat hpr
  go_enter Tryz.func198, Tryz.ntmps198
  go_wp2
  go_region
  go_wp2_with (go_at_call 205; refine (remove_any HQ.out p hp (HF.out _)).mono ?_; rintro e w2 ⟨⟨v, rfl⟩, g2, h2⟩)
  go_end0
  exact ⟨⟨_, rfl⟩, grown_trans (grown_drew _ _) g2, _, h2, HR.out, rfl, rfl⟩
set_option maxHeartbeats 1000000 in
theorem cut_more {W : World} {B : Nat} {q : QS} {ls : Nat → List Nat} (h : QAt W B q) (hi : RInv q ls) (t p : Nat) (hm : t ∈ ls p) (he : ls p ≠ [t]) :
    Calls Tryz.prog 198 #[.pointer (some ⟨B, 0, none⟩), .int .i64 t] W (KeptE B q (del ls t) W) := by
  obtain ⟨ht, hp, hpr⟩ := hi.mem p t hm
  obtain ⟨hne, hr⟩ := hi.cutB hm he
  have hab : q.after t < 256 ∧ q.before t < 256 := by
    obtain ⟨l1, l2, hl⟩ := List.append_of_mem hm
    have hrg := hi.ring p
    rw [hl] at hrg
    have hrot : Ring q.after q.before (t :: (l2 ++ l1)) := hrg.rot
    have im : ∀ x, x ∈ t :: (l2 ++ l1) → x < 256 := fun x hx => by
      refine (hi.mem p x ?_).1
      rw [hl]
      rcases List.mem_cons.1 hx with h | h
      · rw [h]; simp
      · rcases List.mem_append.1 h with h | h <;> simp [h]
    exact ⟨im _ hrot.after_mem, im _ hrot.before_mem⟩
  have c1 : W.cell? ⟨B, 772 + t, none⟩ = some (.int .i64 p) := by rw [h.prio t ht, hpr]
  have HR := Lib.hid hr
  obtain ⟨z, hz⟩ : ∃ z, q.after t = z := ⟨_, rfl⟩
  have c2 : W.cell? ⟨B, t, none⟩ = some (.int .i64 z) := by rw [h.after t ht, hz]
  have HA : Hid (q.after t < 256) := hab.1
  have HBF : Hid (q.before t < 256) := hab.2
  have hzl : z < 256 := by have := hab.1; omega
  have t0 : (0 : Int) ≤ t := by omega
  have t1 : (t : Int) < 256 := by omega
  have p0 : (0 : Int) ≤ p := by omega
  have p1 : (p : Int) < 256 := by omega
  have tt : ((z : Int) == t) = false := beq_eq_false_iff_ne.2 (by omega)
  have HZ := Lib.hid hz
  have HQ : Hid (QAt W.drew B q) := h
  clear h hi he hpr hab hz hne hm hr
  go_enter Tryz.func198, Tryz.ntmps198
  go_wp2
  go_region
  have HG : Hid (W.grownBy W.drew (some B)) := grown_drew _ _
  clear c1 c2
  generalize W.drew = w1 at HQ HG ⊢
  have c3 := HQ.out.heads p hp
  have f3 := HQ.out.frozen (516 + p)
  obtain ⟨hd, hhd⟩ : ∃ x, q.heads p = x := ⟨_, rfl⟩
  rw [hhd] at c3
  have HHD := Lib.hid hhd
  by_cases hth : hd = t
  · have hb : ((hd : Int) == t) = true := by rw [hth]; simp
    have HTH := Lib.hid hth
    have H2 := Lib.hid (HQ.out.setHeads p z hp)
    clear hth hhd
    go_wp2_with (go_at_call 206; refine (unlink_any H2.out t ht HBF.out HA.out).mono ?_; rintro e w2 ⟨⟨v, rfl⟩, g2, h2⟩)
    go_end0
    refine ⟨⟨_, rfl⟩, grown_trans HG.out (grown_trans (grown_set _ _ _ _) g2), _, h2, ?_, rfl, rfl⟩
    have := HR.out
    simp only [cutB, HHD.out, HTH.out, if_true, HZ.out] at this ⊢
    exact this
  · have hb : ((hd : Int) == t) = false := beq_eq_false_iff_ne.2 (by omega)
    have HTH := Lib.hid hth
    clear hth hhd
    go_wp2_with (go_at_call 206; refine (unlink_any HQ.out t ht HBF.out HA.out).mono ?_; rintro e w2 ⟨⟨v, rfl⟩, g2, h2⟩)
    go_end0
    refine ⟨⟨_, rfl⟩, grown_trans HG.out g2, _, h2, ?_, rfl, rfl⟩
    have := HR.out
    simp only [cutB, HHD.out, if_neg HTH.out] at this ⊢
    exact this
theorem cut_any {W : World} {B : Nat} {q : QS} {ls : Nat → List Nat} (h : QAt W B q) (hi : RInv q ls) (t p : Nat) (hm : t ∈ ls p) :
    Calls Tryz.prog 198 #[.pointer (some ⟨B, 0, none⟩), .int .i64 t] W (KeptE B q (del ls t) W) := by
  by_cases he : ls p = [t]
  · exact cut_one h hi t p he
  · exact cut_more h hi t p hm he
end Go.Proofs.YtjaaljcdaamcjaaGreat.Rd
