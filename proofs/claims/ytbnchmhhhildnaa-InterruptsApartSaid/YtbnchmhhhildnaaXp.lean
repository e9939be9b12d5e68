/- Interrupts: Attach. -/
import Derived.Test.YtbnchmhhhildnaaXo
namespace Go.Proofs.Ytbnchmhhhildnaa
open Go.RowKit Go.Maps
set_option linter.unusedVariables false

set_option maxRecDepth 100000 in
theorem attach_bad {W : World} {a : Option Addr} {n th k c p d v z : Int} {fi : Bool} (hz : z ≠ 0) (hf : ∀ W2, Fr No W W2 → Calls Try.prog 39 #[.pointer a, .int .i64 n] W2 fun e w' => e = .returned (.int .i64 z) ∧ W2 = w') :
    Calls Try.prog 24 #[.pointer a, .int .i64 n, .int .i64 th, evV k c p d v, .bool fi] W fun e w' => e = .returned (.tuple #[.int .i64 0, .int .i64 z]) ∧ Fr No W w' := by
  have HF : Hid (Fr No W (W.alloc (.cells #[.int .i64 k, .int .i64 c, .int .i64 p, .int .i64 d, .int .i64 v] 32))) := Fr.alloc _ _ _
  have HC := Lib.hid (hf _ HF.out)
  have hz' : (z != 0) = true := by simpa using hz
  clear hf hz
  unfold evV
  go_enter Try.func24, Try.ntmps24
  go_wp2_with (go_at_call 39; refine HC.out.mono ?_; rintro e w2 ⟨rfl, f2⟩; subst f2)
  go_ret2
  exact ⟨rfl, HF.out⟩
theorem ckL_nat {s : IS} {n : Nat} {l : IL} (hl : s.ls[n]? = some l) : ckL s.ls.length n = 0 := by
  have := (List.getElem?_eq_some_iff.1 hl).1
  unfold ckL; rw [if_pos (by omega)]
set_option maxRecDepth 100000 in
set_option maxHeartbeats 1000000 in
theorem attach_err {W : World} {O : Nat → Prop} {B : Nat} {y : LY} {s : IS} (h : CM W O B y s) (hk : IOk s) {n : Nat} {l : IL} (hl : s.ls[n]? = some l) {th k c p d v z : Int} (fi : Bool) (hz : ckN th k c p d = z) (h0 : z ≠ 0) :
    Calls Try.prog 24 #[.pointer (some ⟨B, 0, none⟩), .int .i64 (n : Int), .int .i64 th, evV k c p d v, .bool fi] W fun e w' => e = .returned (.tuple #[.int .i64 0, .int .i64 z]) ∧ Fr No W w' := by
  have HF : Hid (Fr No W (W.alloc (.cells #[.int .i64 k, .int .i64 c, .int .i64 p, .int .i64 d, .int .i64 v] 32))) := Fr.alloc _ _ _
  have HE := Lib.hid (RowAt.new W 32 #[.int .i64 k, .int .i64 c, .int .i64 p, .int .i64 d, .int .i64 v])
  have hc := check_any (h.no HF.out) hk.n0 (n : Int)
  rw [ckL_nat hl] at hc
  have HK := Lib.hid hc
  have HC := Lib.hid (fun w => checknew_any th k c p d v w)
  rw [hz] at HC
  have hz' : (z != 0) = true := by simpa using h0
  clear h hk hl hc hz h0
  unfold evV at HC ⊢
  go_enter Try.func24, Try.ntmps24
  go_upto_region 1 with (fail)
  generalize World.alloc W _ = W1 at HF HE HK ⊢
  generalize W.heap.size = E at HE ⊢
  go_wp2_with (first
    | (go_at_call 39; refine HK.out.mono ?_; rintro e w2 ⟨rfl, f2⟩; subst f2)
    | ((with_reducible refine ld_gate ?_); refine wpList_load_mid rfl 32 (Operand.tmp 8) rfl E 0 rfl [_, _, _, _, _] _ HE.out.range Try.underlying32 rfl size_event ?_; go_frame)
    | (go_at_call 47; refine (HC.out _).mono ?_; rintro e w3 ⟨rfl, f3⟩; have F3 := Lib.hid f3; clear f3))
  go_ret2
  exact ⟨rfl, HF.out.trans F3.out⟩
/-- A new attachment. -/
def attS (s : IS) (n : Nat) (l : IL) (fi : Bool) (t : Tm) : IS := { (setLs s n { l with o := if fi then (lf s.att : Int) :: l.o else l.o ++ [(lf s.att : Int)] }) with att := ins (lf s.att : Nat) t s.att }
theorem IOk.attNew {s : IS} (h : IOk s) {n : Nat} {l : IL} (hl : s.ls[n]? = some l) (fi : Bool) {t : Tm} (ht : t.l = n) (hw : t.k = 4 → 0 ≤ t.c ∧ t.c < 256) (hc : s.att.length < 100) : IOk (attS s n l fi t) := by
  have hn := (List.getElem?_eq_some_iff.1 hl).1
  obtain ⟨f1, f2, f3⟩ := lf_ok h
  have hg := fun y => get_ins (lf s.att : Nat) t y s.att h.srt
  have hmem : ∀ x : Int, (x ∈ (if fi then (lf s.att : Int) :: l.o else l.o ++ [(lf s.att : Int)])) ↔ x = (lf s.att : Nat) ∨ x ∈ l.o := fun x => by
    cases fi <;> simp [or_comm]
  have hnew : ((lf s.att : Nat) : Int) ∉ l.o := fun hm => by
    obtain ⟨u, hu, _⟩ := (h.ord n l _ hl).1 hm
    rw [f2] at hu; cases hu
  have key : ∀ (i : Nat) (m : IL), (attS s n l fi t).ls[i]? = some m → (i = n ∧ m.o = if fi then (lf s.att : Int) :: l.o else l.o ++ [(lf s.att : Int)]) ∨ (i ≠ n ∧ s.ls[i]? = some m) := fun i m hm => by
    have hm : (s.ls.set n { l with o := if fi then (lf s.att : Int) :: l.o else l.o ++ [(lf s.att : Int)] })[i]? = some m := hm
    by_cases e : i = n
    · subst e
      rw [List.getElem?_set_self hn] at hm
      cases hm; exact .inl ⟨rfl, rfl⟩
    · rw [List.getElem?_set_ne (fun q => e q.symm)] at hm
      exact .inr ⟨e, hm⟩
  have hlen : (attS s n l fi t).ls.length = s.ls.length := by show (s.ls.set _ _).length = _; simp
  refine ⟨by rw [hlen]; exact h.n0, by rw [hlen]; exact h.n1, sorted_ins h.srt, fun p hp => ?_, ?_, fun i m x hm => ?_, fun i m hm => ?_, fun x u hu => ?_, h.c0, h.c1, fun i x hx => ?_⟩
  · rcases mem_ins hp with rfl | hp
    · show 0 ≤ ((lf s.att : Nat) : Int) ∧ ((lf s.att : Nat) : Int) < 100; omega
    · exact h.key p hp
  · show (ins _ _ _).length ≤ 100
    rw [len_ins_new f2]; omega
  · show x ∈ m.o ↔ ∃ u, get (ins _ _ _) x = some u ∧ u.l = i
    rcases key i m hm with ⟨rfl, e⟩ | ⟨hne, hm⟩
    · rw [e, hmem, hg]
      by_cases ex : ((lf s.att : Nat) : Int) = x
      · rw [if_pos ex]
        exact ⟨fun _ => ⟨t, rfl, ht⟩, fun _ => .inl ex.symm⟩
      · rw [if_neg ex, ← h.ord i l x hl]
        exact ⟨fun hh => hh.resolve_left (fun q => ex q.symm), .inr⟩
    · rw [hg]
      by_cases ex : ((lf s.att : Nat) : Int) = x
      · rw [if_pos ex]
        constructor
        · intro hh
          obtain ⟨u, hu, _⟩ := (h.ord i m x hm).1 hh
          rw [← ex, f2] at hu; cases hu
        · rintro ⟨u, hu, e2⟩
          cases hu
          exact absurd (by omega) hne
      · rw [if_neg ex]; exact h.ord i m x hm
  · rcases key i m hm with ⟨rfl, e⟩ | ⟨hne, hm⟩
    · rw [e]
      cases fi
      · simp only [Bool.false_eq_true, if_false]
        exact List.nodup_append.2 ⟨h.dup i l hl, by simp, fun a ha b hb e => hnew (by simp at hb; rw [← hb, ← e]; exact ha)⟩
      · simp only [if_true]
        exact List.nodup_cons.2 ⟨hnew, h.dup i l hl⟩
    · exact h.dup i m hm
  · have hu : get (ins _ _ _) x = some u := hu
    rw [hg] at hu
    rw [hlen]
    split at hu
    · cases hu; exact ⟨by omega, by omega, hw⟩
    · exact h.lin x u hu
  · rcases h.cz i x hx with h1 | ⟨u, h1, h2⟩
    · exact .inl h1
    · refine .inr ⟨u, ?_, h2⟩
      show get (ins _ _ _) x = some u
      rw [hg, if_neg (fun e => by rw [← e, f2] at h1; cases h1)]
      exact h1
set_option maxRecDepth 100000 in
set_option maxHeartbeats 1000000 in
theorem attach_full {W : World} {O : Nat → Prop} {B : Nat} {y : LY} {s : IS} (h : CM W O B y s) (hk : IOk s) {n : Nat} {l : IL} (hl : s.ls[n]? = some l) {th k c p d v : Int} (fi : Bool) (hz : ckN th k c p d = 0) (h0 : s.att.length = 100) :
    Calls Try.prog 24 #[.pointer (some ⟨B, 0, none⟩), .int .i64 (n : Int), .int .i64 th, evV k c p d v, .bool fi] W fun e w' => e = .returned (.tuple #[.int .i64 0, .int .i64 18]) ∧ Fr No W w' := by
  have HF : Hid (Fr No W (W.alloc (.cells #[.int .i64 k, .int .i64 c, .int .i64 p, .int .i64 d, .int .i64 v] 32))) := Fr.alloc _ _ _
  have HE := Lib.hid (RowAt.new W 32 #[.int .i64 k, .int .i64 c, .int .i64 p, .int .i64 d, .int .i64 v])
  have hc := check_any (h.no HF.out) hk.n0 (n : Int)
  rw [ckL_nat hl] at hc
  have HK := Lib.hid hc
  have HC := Lib.hid (fun w => checknew_any th k c p d v w)
  rw [hz] at HC
  have HS := Lib.hid (h.no HF.out)
  have HN := Lib.hid h0
  clear h hk hl hc hz h0
  unfold evV at HC ⊢
  go_enter Try.func24, Try.ntmps24
  go_upto_region 1 with (fail)
  generalize World.alloc W _ = W1 at HF HE HK HS ⊢
  generalize W.heap.size = E at HE ⊢
  go_upto_region 7 with (first
    | (go_at_call 39; refine HK.out.mono ?_; rintro e w2 ⟨rfl, f2⟩; subst f2)
    | ((with_reducible refine ld_gate ?_); refine wpList_load_mid rfl 32 (Operand.tmp 8) rfl E 0 rfl [_, _, _, _, _] _ HE.out.range Try.underlying32 rfl size_event ?_; go_frame)
    | (go_at_call 47; refine (HC.out _).mono ?_; rintro e w3 ⟨rfl, f3⟩; have F3 := Lib.hid f3; clear f3))
  have HS3 := Lib.hid (HS.out.no F3.out)
  have c0 : w3.cell? ⟨B, 1, none⟩ = some (.map (some y.a)) := HS3.out.row.cell 1
  have HL : Hid (∀ ty, (Builtin.len_ #[58] ty #[.map (some y.a)]).run Try.prog w3 = .ok (.int .i64 100) w3) := fun ty => by
    have := HS3.out.ma.len ty
    rw [HN.out] at this
    exact this
  go_wp2_with (at_len; refine wpList_bi1 rfl _ _ rfl _ rfl _ HL.out ?_)
  go_ret2
  exact ⟨rfl, HF.out.trans F3.out⟩
set_option maxRecDepth 100000 in
set_option maxHeartbeats 4000000 in
theorem attach_ok {W : World} {O : Nat → Prop} {B : Nat} {y : LY} {s : IS} (h : CM W O B y s) (hk : IOk s) {n : Nat} {l : IL} (hl : s.ls[n]? = some l) {th k c p d v : Int} (fi : Bool) (hz : ckN th k c p d = 0) (h0 : s.att.length < 100) :
    Calls Try.prog 24 #[.pointer (some ⟨B, 0, none⟩), .int .i64 (n : Int), .int .i64 th, evV k c p d v, .bool fi] W fun e w' => e = .returned (.tuple #[.int .i64 (lf s.att : Nat), .int .i64 0]) ∧ (∃ y', CM w' (Gr O W w') B y' (attS s n l fi ⟨n, th, k, c, p, d, v⟩)) ∧ Fr O W w' := by
  have HF : Hid (Fr No W (W.alloc (.cells #[.int .i64 k, .int .i64 c, .int .i64 p, .int .i64 d, .int .i64 v] 32))) := Fr.alloc _ _ _
  have HE := Lib.hid (RowAt.new W 32 #[.int .i64 k, .int .i64 c, .int .i64 p, .int .i64 d, .int .i64 v])
  have hc := check_any (h.no HF.out) hk.n0 (n : Int)
  rw [ckL_nat hl] at hc
  have HK := Lib.hid hc
  have HC := Lib.hid (fun w => checknew_any th k c p d v w)
  rw [hz] at HC
  have HS := Lib.hid (h.no HF.out)
  have HN := Lib.hid h0
  have HIK := Lib.hid hk
  have HL := Lib.hid hl
  have HTOP := Lib.hid h.top
  clear h hk hl hc hz h0
  unfold evV at HC ⊢
  go_enter Try.func24, Try.ntmps24
  go_upto_region 1 with (fail)
  generalize World.alloc W _ = W1 at HF HE HK HS ⊢
  generalize hE : W.heap.size = E at HE ⊢
  have HEW := Lib.hid hE
  clear hE
  go_upto_region 7 with (first
    | (go_at_call 39; refine HK.out.mono ?_; rintro e w2 ⟨rfl, f2⟩; subst f2)
    | ((with_reducible refine ld_gate ?_); refine wpList_load_mid rfl 32 (Operand.tmp 8) rfl E 0 rfl [_, _, _, _, _] _ HE.out.range Try.underlying32 rfl size_event ?_; go_frame)
    | (go_at_call 47; refine (HC.out _).mono ?_; rintro e w3 ⟨rfl, f3⟩; have F3 := Lib.hid f3; clear f3))
  have HS3 := Lib.hid (HS.out.no F3.out)
  have HFA := Lib.hid (HF.out.trans F3.out)
  have HE3 := Lib.hid (HE.out.fr F3.out id)
  have c0 : w3.cell? ⟨B, 1, none⟩ = some (.map (some y.a)) := HS3.out.row.cell 1
  have HLN : Hid (∀ ty, (Builtin.len_ #[58] ty #[.map (some y.a)]).run Try.prog w3 = .ok (.int .i64 (s.att.length : Nat)) w3) := fun ty => HS3.out.ma.len ty
  have hl1 : decide (100 ≤ (s.att.length : Int)) = false := by have := HN.out; simp; omega
  go_upto_region 10 with (first
    | (at_len; refine wpList_bi1 rfl _ _ rfl _ rfl _ HLN.out ?_)
    | (go_at_call 48; refine (leastfree_ok HS3.out HIK.out).mono ?_; rintro e w4 ⟨rfl, f4⟩; have F4 := Lib.hid f4; clear f4))
  clear c0
  have HF4 := Lib.hid (HFA.out.trans F4.out)
  have HS4 := Lib.hid (HS3.out.no F4.out)
  have HE4 := Lib.hid (HE3.out.fr F4.out id)
  have HLI : Hid (lf s.att < 100) := Nat.lt_of_le_of_lt (lf_ok HIK.out).2.2 HN.out
  have HM := Lib.hid ((HS4.out.ma.fr (Fr.drew No _) id).put HIK.out.srt (by have := HIK.out.cnt; omega) (isW_nat (n := lf s.att) (by have := HLI.out; omega)) ⟨(n : Int), th, k, c, p, d, v⟩)
  have b0 : w4.cell? ⟨B, 1, none⟩ = some (.map (some y.a)) := HS4.out.row.cell 1
  have x0 : w4.cell? ⟨E, 0, none⟩ = some (.int .i64 k) := HE4.out.cell 0
  have x1 : w4.cell? ⟨E, 1, none⟩ = some (.int .i64 c) := HE4.out.cell 1
  have x2 : w4.cell? ⟨E, 2, none⟩ = some (.int .i64 p) := HE4.out.cell 2
  have x3 : w4.cell? ⟨E, 3, none⟩ = some (.int .i64 d) := HE4.out.cell 3
  have x4 : w4.cell? ⟨E, 4, none⟩ = some (.int .i64 v) := HE4.out.cell 4
  obtain ⟨W6, m1, m2, m3⟩ := HM.out
  have HM6 : Hid (CM W6 O B y { s with att := ins (lf s.att : Nat) ⟨(n : Int), th, k, c, p, d, v⟩ s.att }) := (HS4.out.no (Fr.drew No _)).setA m3 m2
  have HF6 : Hid (Fr O W W6) := (HF4.out.any.trans (Fr.drew _ _)).trans (m3.mono (fun k _ hk => by subst hk; exact HS4.out.oa))
  have m0 : (Instr.mapUpdate 58 (.map (some y.a)) (.int .i64 (lf s.att : Nat)) (.agg #[.int .i64 n, .int .i64 th, .int .i64 k, .int .i64 c, .int .i64 p, .int .i64 d, .int .i64 v])).run Try.prog w4.drew = .ok () W6 := m1
  have HX6 := Lib.hid ((HE4.out.fr (Fr.drew No _) id).fr m3 (by have := HTOP.out _ HS4.out.oa; have := HEW.out; show ¬ E = y.a; omega))
  have HK6 : Hid (W6.cell? ⟨B, 1, none⟩ = some (.map (some y.a)) ∧ W6.cell? ⟨E, 0, none⟩ = some (.int .i64 k) ∧ W6.cell? ⟨E, 1, none⟩ = some (.int .i64 c) ∧ W6.cell? ⟨E, 2, none⟩ = some (.int .i64 p) ∧ W6.cell? ⟨E, 3, none⟩ = some (.int .i64 d) ∧ W6.cell? ⟨E, 4, none⟩ = some (.int .i64 v)) := ⟨HM6.out.row.cell 1, HX6.out.cell 0, HX6.out.cell 1, HX6.out.cell 2, HX6.out.cell 3, HX6.out.cell 4⟩
  clear m1 m2 m3 HM
  have hn := (List.getElem?_eq_some_iff.1 HL.out).1
  have n0 : (0 : Int) ≤ (n : Int) := by omega
  have n1 : (n : Int) < (s.ls.length : Nat) := by omega
  have c6 : W6.cell? ⟨B, 0, none⟩ = some (.slice (some ⟨y.b, 0, none⟩) s.ls.length y.cap) := HM6.out.row.cell 0
  have HI1 := Lib.hid (insert_first HM6.out HL.out (HIK.out.olen HL.out) (lf s.att : Nat))
  have HI2 := Lib.hid (insert_last HM6.out HL.out (HIK.out.olen HL.out) (lf s.att : Nat))
  clear hn
  go_region_held3 (fun w' => w'.cell? ⟨B, 1, none⟩ = some (.map (some y.a)) ∧ w'.cell? ⟨E, 0, none⟩ = some (.int .i64 k) ∧ w'.cell? ⟨E, 1, none⟩ = some (.int .i64 c) ∧ w'.cell? ⟨E, 2, none⟩ = some (.int .i64 p) ∧ w'.cell? ⟨E, 3, none⟩ = some (.int .i64 d) ∧ w'.cell? ⟨E, 4, none⟩ = some (.int .i64 v))
    (first | (exact ⟨b0, x0, x1, x2, x3, x4⟩) | (exact HK6.out))
    (fail)
  all_goals (
    clear b0 x0 x1 x2 x3 x4 m0
    have HP : Hid (W.heap.size ≤ W6.heap.size) := HF6.out.size
    cases fi
    · go_wp2_with (go_at_call 49; refine HI2.out.mono ?_; rintro e w7 ⟨rfl, q7⟩; have Q7 := Lib.hid q7; clear q7)
      go_ret2
      obtain ⟨y', a1, a2⟩ := Q7.out
      exact ⟨rfl, ⟨y', a1.mono (gr_grow HP.out) (fun j hj => hj.elim (fun h => a1.top j (.inl h)) (fun h => h.2))⟩, HF6.out.trans a2⟩
    · go_wp2_with (go_at_call 49; refine HI1.out.mono ?_; rintro e w7 ⟨rfl, q7⟩; have Q7 := Lib.hid q7; clear q7)
      go_ret2
      obtain ⟨y', a1, a2⟩ := Q7.out
      exact ⟨rfl, ⟨y', a1.mono (gr_grow HP.out) (fun j hj => hj.elim (fun h => a1.top j (.inl h)) (fun h => h.2))⟩, HF6.out.trans a2⟩)
end Go.Proofs.Ytbnchmhhhildnaa
