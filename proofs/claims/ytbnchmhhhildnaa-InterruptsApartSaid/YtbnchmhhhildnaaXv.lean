/- Interrupts: a controller among other blocks; the example of the chapter. -/
import Derived.Test.YtbnchmhhhildnaaXu
namespace Go.Proofs.Ytbnchmhhhildnaa
open Go.RowKit Go.Maps
set_option linter.unusedVariables false

/-- A controller whose blocks are of O or from N on. -/
def CE (O : Nat → Prop) (N : Nat) (w : World) (B : Nat) (s : IS) : Prop := ∃ y O', CM w O' B y s ∧ ∀ k, O' k → O k ∨ N ≤ k
abbrev Ft (O : Nat → Prop) (N : Nat) : Nat → Prop := fun k => O k ∨ N ≤ k
theorem CE.fr {O : Nat → Prop} {N : Nat} {w w' : World} {B : Nat} {s : IS} {S : Nat → Prop} (h : CE O N w B s) (hf : Fr S w w') (hS : ∀ k, k < w.heap.size → (O k ∨ N ≤ k) → ¬ S k) : CE O N w' B s := by
  obtain ⟨y, O', h1, h2⟩ := h
  exact ⟨y, O', h1.fr hf (fun k ok => hS k (h1.top k ok) (h2 k ok)), h2⟩
theorem CE.no {O : Nat → Prop} {N : Nat} {w w' : World} {B : Nat} {s : IS} (h : CE O N w B s) (hf : Fr No w w') : CE O N w' B s := h.fr hf (fun _ _ _ => id)
theorem CE.step {O O' : Nat → Prop} {N : Nat} {w w' : World} {B : Nat} {y' : LY} {s' : IS} (hN : N ≤ w.heap.size) (h2 : ∀ k, O' k → O k ∨ N ≤ k) (h : CM w' (Gr O' w w') B y' s') : CE O N w' B s' :=
  ⟨y', _, h, fun k hk => hk.elim (h2 k) (fun e => .inr (Nat.le_trans hN e.1))⟩
theorem attach_ce {W : World} {O : Nat → Prop} {N B : Nat} {s : IS} (h : CE O N W B s) (hk : IOk s) (hN : N ≤ W.heap.size) {n : Nat} {l : IL} (hl : s.ls[n]? = some l) {th k c p d v : Int} (fi : Bool) (hz : ckN th k c p d = 0) (h0 : s.att.length < 100) :
    Calls Try.prog 24 #[.pointer (some ⟨B, 0, none⟩), .int .i64 (n : Int), .int .i64 th, evV k c p d v, .bool fi] W fun e w' => e = .returned (.tuple #[.int .i64 (lf s.att : Nat), .int .i64 0]) ∧ CE O N w' B (attS s n l fi ⟨n, th, k, c, p, d, v⟩) ∧ Fr (Ft O N) W w' := by
  obtain ⟨y, O', h1, h2⟩ := h
  refine (attach_ok h1 hk hl fi hz h0).mono ?_
  rintro e w' ⟨rfl, ⟨y', h3⟩, h4⟩
  exact ⟨rfl, CE.step hN h2 h3, h4.mono (fun k _ ok => h2 k ok)⟩
theorem raise_ce {W : World} {O : Nat → Prop} {N B : Nat} {s : IS} (h : CE O N W B s) (hk : IOk s) {n : Nat} {l : IL} (hl : s.ls[n]? = some l) : Calls Try.prog 22 #[.pointer (some ⟨B, 0, none⟩), .int .i64 (n : Int)] W fun e w' => e = .returned (.tuple #[.bool l.p, .int .i64 0]) ∧ CE O N w' B (setLs s n { l with p := true }) ∧ Fr (Ft O N) W w' := by
  obtain ⟨y, O', h1, h2⟩ := h
  refine (raise_ok h1 hk hl).mono ?_
  rintro e w' ⟨rfl, h3, h4⟩
  exact ⟨rfl, ⟨y, O', h3, h2⟩, h4.mono (fun k _ ok => h2 k ok)⟩
theorem deliver_ce {W : World} {O : Nat → Prop} {N B : Nat} {s : IS} (h : CE O N W B s) (hk : IOk s) : Calls Try.prog 20 #[.pointer (some ⟨B, 0, none⟩)] W fun e w' => ∃ v, e = .returned v ∧ CE O N w' B (dA s s.ls.length).1 ∧ w'.ownsRow W.heap.size 50 9 v (dA s s.ls.length).2.length (dsE (dA s s.ls.length).2) ∧ Fr (Ft O N) W w' := by
  obtain ⟨y, O', h1, h2⟩ := h
  refine (deliver_ok h1 hk).mono ?_
  rintro e w' ⟨v, rfl, h3⟩
  exact ⟨v, rfl, ⟨y, O', h3.cm, h2⟩, h3.own, h3.fr.mono (fun k _ ok => h2 k ok)⟩
theorem masks_ce {W : World} {O : Nat → Prop} {N B : Nat} {s : IS} (h : CE O N W B s) (hk : IOk s) (x : Int) : Calls Try.prog 13 #[.pointer (some ⟨B, 0, none⟩), .int .i64 x] W fun e w' => e = .returned (.tuple #[.int .i64 (if ckL s.ls.length x = 0 then sumI s x else 0), .int .i64 (ckL s.ls.length x)]) ∧ W = w' := by
  obtain ⟨y, O', h1, h2⟩ := h
  exact masks_ok h1 hk x
theorem spur_ce {W : World} {O : Nat → Prop} {N B : Nat} {s : IS} (h : CE O N W B s) (hk : IOk s) (x : Int) : Calls Try.prog 15 #[.pointer (some ⟨B, 0, none⟩), .int .i64 x] W fun e w' => e = .returned (.tuple #[.int .i64 (if ckL s.ls.length x = 0 then spI s x else 0), .int .i64 (ckL s.ls.length x)]) ∧ W = w' := by
  obtain ⟨y, O', h1, h2⟩ := h
  exact spur_ok h1 hk x
theorem new_ce {n : Nat} (h0 : 0 < n) (h1 : n ≤ 32) (W : World) : Calls Try.prog 10 #[.int .i64 (n : Int)] W fun e w' => ∃ B, e = .returned (.tuple #[.pointer (some ⟨B, 0, none⟩), .int .i64 0]) ∧ ∃ cs : List Nat, cs.length = n ∧ cs.Nodup ∧ (∀ c ∈ cs, W.heap.size ≤ c ∧ c < w'.heap.size) ∧ CE No W.heap.size w' B (newS cs) ∧ Fr No W w' := by
  refine (inew_ok h0 h1 W).mono ?_
  rintro e w' ⟨B, rfl, y, cs, h2, h3, h4, h5, h6⟩
  exact ⟨B, rfl, cs, h2, h3, h4, ⟨y, _, h5, fun k hk => .inr hk.1⟩, h6⟩
theorem toNo {N : Nat} {W w : World} (h : Fr (Ft No N) W w) (hN : W.heap.size ≤ N) : Fr No W w := h.mono (fun k hk e => by rcases e with e | e; exact e.elim; omega)
theorem new4 (W : World) : Calls Try.prog 10 #[.int .i64 4] W fun e w' => ∃ B, e = .returned (.tuple #[.pointer (some ⟨B, 0, none⟩), .int .i64 0]) ∧ ∃ a b c d, CE No W.heap.size w' B (newS [a, b, c, d]) ∧ Fr No W w' := by
  have h : Calls Try.prog 10 #[.int .i64 4] W _ := new_ce (n := 4) (by omega) (by omega) W
  refine h.mono ?_
  rintro e w' ⟨B, rfl, cs, h2, _, _, h3, h4⟩
  match cs, h2 with
  | [a, b, c, d], _ => exact ⟨B, rfl, a, b, c, d, h3, h4⟩
theorem aw_cell {w : World} {N : Nat} {v : Value} {a b c d : Nat} (h : w.ownsRow N 50 9 v (dA (awS3 [a, b, c, d] d) (awS3 [a, b, c, d] d).ls.length).2.length (dsE (dA (awS3 [a, b, c, d] d) (awS3 [a, b, c, d] d).ls.length).2)) : ∃ g cap, v = .slice (some ⟨g, 0, none⟩) 2 cap ∧ w.cell? ⟨g, 9, none⟩ = some (.int .i64 1) := by
  have e : (dA (awS3 [a, b, c, d] d) (awS3 [a, b, c, d] d).ls.length).2 = [⟨0, 3, 1, 1, 0, 0, 0, 0, false⟩, ⟨1, 3, 2, 0, 0, 0, 0, 0, false⟩] := by
    rw [(aw_parts a b c d).2.2.2.2.2.2, aw_dA, aw_dQ]
  rw [e] at h
  have hn : ([⟨0, 3, 1, 1, 0, 0, 0, 0, false⟩, ⟨1, 3, 2, 0, 0, 0, 0, 0, false⟩] : List Dv).length = 2 := rfl
  rw [hn] at h
  obtain ⟨g, cap, rfl⟩ := own_slice2 h (by omega)
  exact ⟨g, cap, rfl, own_cells h rfl⟩
theorem Fr.thenN {W w w' : World} (h : Fr No W w) (k : Fr (Ft No W.heap.size) w w') : Fr No W w' := toNo (h.any.trans k) (Nat.le_refl _)
set_option maxRecDepth 100000 in
set_option maxHeartbeats 4000000 in
theorem awake_any (W : World) : Calls Try.prog 9 #[] W fun e w' => e = .returned (.bool true) ∧ Fr No W w' := by
  have HN := Lib.hid new4
  have HZA : Hid (ckN 1 1 0 0 0 = 0) := rfl
  have HZB : Hid (ckN 2 0 0 0 0 = 0) := rfl
  go_enter Try.func9, Try.ntmps9
  go_upto_region 4 with (go_at_call 10; refine (HN.out _).mono ?_; rintro e w1 ⟨B, rfl, a, b, c, d, q1, q2⟩; have Q1 := Lib.hid q1; have F1 := Lib.hid q2; clear q1 q2)
  have HP := Lib.hid (aw_parts a b c d)
  have HK := Lib.hid (aw_ok a b c d)
  have hA1 : Calls Try.prog 24 #[.pointer (some ⟨B, 0, none⟩), .int .i64 3, .int .i64 1, .agg #[.int .i64 1, .int .i64 0, .int .i64 0, .int .i64 0, .int .i64 0], .bool false] w1 fun e w' => e = .returned (.tuple #[.int .i64 0, .int .i64 0]) ∧ CE No W.heap.size w' B (awS1 [a, b, c, d] d) ∧ Fr (Ft No W.heap.size) w1 w' :=
    attach_ce Q1.out HK.out.1 F1.out.size HP.out.1 false HZA.out (by simp [newS])
  have HA1 := Lib.hid hA1
  clear hA1
  go_upto_region 5 with (go_at_call 24; refine HA1.out.mono ?_; rintro e w2 ⟨rfl, q1, q2⟩; have Q2 := Lib.hid q1; have F2 := Lib.hid (F1.out.thenN q2); clear q1 q2)
  have hA2 : Calls Try.prog 24 #[.pointer (some ⟨B, 0, none⟩), .int .i64 3, .int .i64 2, .agg #[.int .i64 0, .int .i64 0, .int .i64 0, .int .i64 0, .int .i64 0], .bool false] w2 fun e w' => e = .returned (.tuple #[.int .i64 1, .int .i64 0]) ∧ CE No W.heap.size w' B (awS2 [a, b, c, d] d) ∧ Fr (Ft No W.heap.size) w2 w' :=
    attach_ce Q2.out HK.out.2.1 F2.out.size HP.out.2.2.1 false HZB.out (by show List.length _ < 100; simp [awS1, attS, newS, ins])
  have HA2 := Lib.hid hA2
  clear hA2 HA1
  go_upto_region 6 with (go_at_call 24; refine HA2.out.mono ?_; rintro e w3 ⟨rfl, q1, q2⟩; have Q3 := Lib.hid q1; have F3 := Lib.hid (F2.out.thenN q2); clear q1 q2)
  have hR : Calls Try.prog 22 #[.pointer (some ⟨B, 0, none⟩), .int .i64 3] w3 fun e w' => e = .returned (.tuple #[.bool false, .int .i64 0]) ∧ CE No W.heap.size w' B (awS3 [a, b, c, d] d) ∧ Fr (Ft No W.heap.size) w3 w' :=
    raise_ce Q3.out HK.out.2.2.1 HP.out.2.2.2.2.1
  have HR := Lib.hid hR
  clear hR
  go_upto_region 7 with (go_at_call 22; refine HR.out.mono ?_; rintro e w4 ⟨rfl, q1, q2⟩; have Q4 := Lib.hid q1; have F4 := Lib.hid (F3.out.thenN q2); clear q1 q2)
  have HD := Lib.hid (deliver_ce Q4.out HK.out.2.2.2)
  go_upto_region 8 with (go_at_call 20; refine HD.out.mono ?_; rintro e w5 ⟨v, rfl, q1, q3, q2⟩; have Q5 := Lib.hid q1; have F5 := Lib.hid (F4.out.thenN q2); have OV := Lib.hid (aw_cell q3); clear q1 q2 q3)
  obtain ⟨g, cap, hv, c9⟩ := OV.out
  subst hv
  have hM : Calls Try.prog 13 #[.pointer (some ⟨B, 0, none⟩), .int .i64 3] w5 fun e w' => e = .returned (.tuple #[.int .i64 1, .int .i64 0]) ∧ w5 = w' := by
    have h1 := masks_ce Q5.out (dA_ok HK.out.2.2.2 _) 3
    rw [dA_len, HP.out.2.2.2.2.2.2, aw_dA] at h1
    rw [show ckL 4 3 = 0 from rfl, if_pos rfl, aw_sum] at h1
    exact h1
  have HM := Lib.hid hM
  clear hM OV
  go_wp2_with (go_at_call 13; refine HM.out.mono ?_; rintro e w6 ⟨rfl, q1⟩; subst q1)
  go_ret
  exact ⟨rfl, F5.out⟩
end Go.Proofs.Ytbnchmhhhildnaa
