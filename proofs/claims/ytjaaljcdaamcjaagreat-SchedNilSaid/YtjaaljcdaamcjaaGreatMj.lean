/- New. -/
import Derived.Test.YtjaaljcdaamcjaaGreatMi
import Derived.Deep.RegionHeld3
namespace Go.Proofs.YtjaaljcdaamcjaaGreat.Pa
open Go.RowKit
set_option linter.unusedVariables false

def mq0 (w p n : Nat) : MQ := ⟨w, p, n, fun _ => 0, fun _ => 0, fun _ => 0, fun _ => 0, fun _ => [], 0⟩
set_option maxRecDepth 1000000 in
theorem zero_mq : Tryz.zeroCells151 = mA (mq0 0 0 0) := by kernel_rfl
theorem mq_set (q q' : MQ) (i : Nat) (v : Value) (hi : i < 3) (hv : mv q' i = v) (h : ∀ j, j < 3 → j ≠ i → mv q' j = mv q j) (h0 : q'.bud = q.bud ∧ q'.cri = q.cri ∧ q'.use = q.use ∧ q'.ucr = q.ucr ∧ q'.sl = q.sl ∧ q'.told = q.told) : (mA q).setIfInBounds i v = mA q' := by
  refine mA_set q q' i v fun j hj => ?_
  obtain ⟨h1, h2, h3, h4, h5, h6⟩ := h0
  by_cases e : j = i
  · rw [if_pos e, e, hv]
  · rw [if_neg e]
    rcases off_cases hj with rfl | rfl | rfl | ⟨p, f, hp, hf, rfl⟩ | ⟨s, k, f, hs, hk, hf, rfl⟩ | rfl
    · exact h 0 (by omega) e
    · exact h 1 (by omega) e
    · exact h 2 (by omega) e
    · rw [mv_acc _ p f hp hf, mv_acc _ p f hp hf, accV, accV, h1, h2, h3, h4]
    · rw [mv_chg _ s k f hs hk hf, mv_chg _ s k f hs hk hf, h5]
    · rw [mv_told, mv_told, h6]
theorem mq_new (w p n : Nat) : ((Tryz.zeroCells151.setIfInBounds 0 (.int .i64 (w : Int))).setIfInBounds 1 (.int .i64 (p : Int))).setIfInBounds 2 (.int .i64 (n : Int)) = mA (mq0 w p n) := by
  have e1 : (mA (mq0 0 0 0)).setIfInBounds 0 (.int .i64 (w : Int)) = mA (mq0 w 0 0) := mq_set (mq0 0 0 0) (mq0 w 0 0) 0 _ (by omega) rfl (fun j h1 h2 => by
    obtain rfl | rfl : j = 1 ∨ j = 2 := by omega
    · rfl
    · rfl) ⟨rfl, rfl, rfl, rfl, rfl, rfl⟩
  have e2 : (mA (mq0 w 0 0)).setIfInBounds 1 (.int .i64 (p : Int)) = mA (mq0 w p 0) := mq_set (mq0 w 0 0) (mq0 w p 0) 1 _ (by omega) rfl (fun j h1 h2 => by
    obtain rfl | rfl : j = 0 ∨ j = 2 := by omega
    · rfl
    · rfl) ⟨rfl, rfl, rfl, rfl, rfl, rfl⟩
  have e3 : (mA (mq0 w p 0)).setIfInBounds 2 (.int .i64 (n : Int)) = mA (mq0 w p n) := mq_set (mq0 w p 0) (mq0 w p n) 2 _ (by omega) rfl (fun j h1 h2 => by
    obtain rfl | rfl : j = 0 ∨ j = 1 := by omega
    · rfl
    · rfl) ⟨rfl, rfl, rfl, rfl, rfl, rfl⟩
  rw [zero_mq, e1, e2, e3]
/-- The budgets of the first n parts. -/
def budQ (w p : Nat) (P : List (Int × Int)) (n i : Nat) : MQ := { mq0 w p n with bud := fun k => if k < i then budI w p (P.getD k (0, 0)).1 else 0, cri := fun k => if k < i then budI w p (P.getD k (0, 0)).2 else 0 }
def cfP (w p : Nat) (P : List (Int × Int)) : CF := ⟨w, p, P.length, fun k => if k < P.length then budI w p (P.getD k (0, 0)).1 else 0, fun k => if k < P.length then budI w p (P.getD k (0, 0)).2 else 0⟩
theorem chkParts_all : ∀ {P : List (Int × Int)} {s : Int}, chkParts P s = 0 → ∀ x ∈ P, (0 ≤ x.1 ∧ x.1 ≤ 100) ∧ (0 ≤ x.2 ∧ x.2 ≤ 100)
  | [], s, h, x, hx => nomatch hx
  | y :: r, s, h, x, hx => by
    rw [chkParts] at h
    split at h
    · rename_i hp
      rcases List.mem_cons.1 hx with rfl | hx
      · exact ⟨(pct_iff _).1 hp.1, (pct_iff _).1 hp.2⟩
      · exact chkParts_all h x hx
    · cases h
theorem cfg_ok {win pr : Int} {P : List (Int × Int)} (h : cfgV win pr P = 0) : (1 ≤ win ∧ win ≤ 1000) ∧ (1 ≤ pr ∧ pr ≤ 8) ∧ 0 < P.length ∧ P.length ≤ 8 ∧ ∀ x ∈ P, (0 ≤ x.1 ∧ x.1 ≤ 100) ∧ (0 ≤ x.2 ∧ x.2 ≤ 100) := by
  rw [cfgV] at h
  split at h
  · cases h
  · split at h
    · cases h
    · split at h
      · cases h
      · exact ⟨by omega, by omega, by omega, by omega, chkParts_all h⟩
theorem cfP_ok {w p : Nat} {P : List (Int × Int)} (h : cfgV w p P = 0) : BudOk (cfP w p P) := fun k => by
  obtain ⟨h1, h2, h3, h4, h5⟩ := cfg_ok h
  show 0 ≤ (if k < P.length then budI w p (P.getD k (0, 0)).1 else 0) ∧ (if k < P.length then budI w p (P.getD k (0, 0)).1 else 0) ≤ 8000
  split
  · rename_i hk
    have hx : P.getD k (0, 0) ∈ P := by rw [List.getD_eq_getElem?_getD, List.getElem?_eq_getElem hk]; exact List.getElem_mem hk
    exact budI_bound (by omega) (by omega) (h5 _ hx).1
  · omega
theorem LI.new (w p n : Nat) (P : List (Int × Int)) (h : cfgV w p P = 0) (hn : n = P.length) (i : Nat) : LI (budQ w p P n i) [] := by
  obtain ⟨h1, h2, h3, h4, h5⟩ := cfg_ok h
  exact ⟨by show 0 < w; omega, by show w ≤ 1000; omega, by show 0 < p; omega, by show p ≤ 8; omega, by show n ≤ 8; omega, by show 0 ≤ 1099511627776; omega, (fun c hc => nomatch hc), fun t => Nat.zero_le _, Nat.zero_le _, fun s hs => rfl, fun _ => rfl, fun _ => rfl⟩
theorem MAt.setBud {W : World} {B : Nat} {q : MQ} (h : MAt W B q) (p : Nat) (hp : p < 8) (x : Int) : MAt (W.setCell ⟨B, 3 + p * 4, none⟩ (.int .i64 x)) B { q with bud := updI q.bud p x } := by
  have := RowAt.set h (3 + p * 4 + 0) (.int .i64 x)
  rw [mA_acc q { q with bud := updI q.bud p x } p 0 hp (by omega) _ ⟨rfl, rfl, rfl, rfl, rfl⟩ (fun p' f' _ _ => ?_)] at this
  · exact this
  · rw [accV, accV]
    by_cases e0 : f' = 0
    · rw [if_pos e0, if_pos e0]
      by_cases e3 : p' = p
      · rw [if_pos ⟨e3, e0⟩, e3]
        show Value.int .i64 (updI q.bud p x p) = _
        rw [updI_same]
      · rw [if_neg (by omega)]
        show Value.int .i64 (updI q.bud p x p') = _
        rw [updI_other e3]
    · rw [if_neg e0, if_neg e0, if_neg (show ¬ (p' = p ∧ f' = 0) from fun e => e0 e.2)]
theorem MAt.setCri {W : World} {B : Nat} {q : MQ} (h : MAt W B q) (p : Nat) (hp : p < 8) (x : Int) : MAt (W.setCell ⟨B, 3 + p * 4 + 1, none⟩ (.int .i64 x)) B { q with cri := updI q.cri p x } := by
  have := RowAt.set h (3 + p * 4 + 1) (.int .i64 x)
  rw [mA_acc q { q with cri := updI q.cri p x } p 1 hp (by omega) _ ⟨rfl, rfl, rfl, rfl, rfl⟩ (fun p' f' _ _ => ?_)] at this
  · exact this
  · rw [accV, accV]
    by_cases e0 : f' = 0
    · rw [if_pos e0, if_pos e0, if_neg (by omega)]
    · rw [if_neg e0, if_neg e0]
      by_cases e1 : f' = 1
      · rw [if_pos e1, if_pos e1]
        by_cases e3 : p' = p
        · rw [if_pos ⟨e3, e1⟩, e3]
          show Value.int .i64 (updI q.cri p x p) = _
          rw [updI_same]
        · rw [if_neg (by omega)]
          show Value.int .i64 (updI q.cri p x p') = _
          rw [updI_other e3]
      · rw [if_neg e1, if_neg e1, if_neg (show ¬ (p' = p ∧ f' = 1) from fun e => e1 e.2)]
theorem budQ_succ {w p : Nat} {P : List (Int × Int)} {n i : Nat} {y : Int × Int} {v1 v2 : Int} (hi : i < P.length) (hy : P[i]? = some y) (h1 : budI w p y.1 = v1) (h2 : budI w p y.2 = v2) : { budQ w p P n i with bud := updI (budQ w p P n i).bud i v1, cri := updI (budQ w p P n i).cri i v2, use := updI (budQ w p P n i).use i 0, ucr := updI (budQ w p P n i).ucr i 0 } = budQ w p P n (i + 1) := by
  have hg : P.getD i (0, 0) = y := by rw [List.getD_eq_getElem?_getD, hy]; rfl
  have e1 : updI (budQ w p P n i).bud i v1 = (budQ w p P n (i + 1)).bud := by
    funext k
    show updI (fun k => if k < i then budI w p (P.getD k (0, 0)).1 else 0) i v1 k = if k < i + 1 then budI w p (P.getD k (0, 0)).1 else 0
    by_cases e : k = i
    · subst e; rw [updI_same, if_pos (by omega), hg, h1]
    · rw [updI_other e]
      by_cases e2 : k < i
      · rw [if_pos e2, if_pos (by omega)]
      · rw [if_neg e2, if_neg (by omega)]
  have e2 : updI (budQ w p P n i).cri i v2 = (budQ w p P n (i + 1)).cri := by
    funext k
    show updI (fun k => if k < i then budI w p (P.getD k (0, 0)).2 else 0) i v2 k = if k < i + 1 then budI w p (P.getD k (0, 0)).2 else 0
    by_cases e : k = i
    · subst e; rw [updI_same, if_pos (by omega), hg, h2]
    · rw [updI_other e]
      by_cases e2 : k < i
      · rw [if_pos e2, if_pos (by omega)]
      · rw [if_neg e2, if_neg (by omega)]
  have e3 : updI (fun _ => 0) i 0 = (fun _ => 0 : Nat → Int) := by
    funext k; rw [updI]; split <;> rfl
  show MQ.mk w p n (updI (budQ w p P n i).bud i v1) (updI (budQ w p P n i).cri i v2) (updI (fun _ => 0) i 0) (updI (fun _ => 0) i 0) _ _ = _
  rw [e1, e2, e3]; rfl
theorem budQ_zero (w p : Nat) (P : List (Int × Int)) (n : Nat) : budQ w p P n 0 = mq0 w p n := by
  unfold budQ mq0; simp
set_option maxRecDepth 100000 in
set_option maxHeartbeats 1000000 in
theorem pnew_err (W : World) (win pr : Int) (a : Option Addr) (cap : Nat) (P : List (Int × Int)) (hP : PartsIn W a P) (z : Int) (hz : cfgV win pr P = z) (h0 : z ≠ 0) : Calls Tryz.prog 30 #[.agg #[.int .i64 win, .int .i64 pr, .slice a P.length cap]] W fun e w' => e = .returned (.tuple #[.pointer none, .int .i64 z]) ∧ Fr (fun _ => False) W w' := by
  have HF : Hid (Fr (fun _ => False) W (W.alloc (.cells #[.int .i64 win, .int .i64 pr, .slice a P.length cap] 24))) := Fr.alloc _ _ _
  have HC := Lib.hid (pcheck_any _ win pr a cap P (hP.fr HF.out (fun _ _ _ => id)))
  rw [hz] at HC
  have hz0 : (z != 0) = true := by simpa using h0
  clear hP hz h0
  go_enter Tryz.func30, Tryz.ntmps30
  go_wp2_with (go_at_call 76; refine HC.out.mono ?_; rintro e W2 ⟨rfl, f2⟩; have F2 := Lib.hid f2; clear f2)
  go_ret2
  exact ⟨rfl, HF.out.trans F2.out⟩
set_option maxRecDepth 100000 in
set_option maxHeartbeats 4000000 in
theorem pnew_ok (W : World) (w p : Nat) (a : Option Addr) (cap : Nat) (P : List (Int × Int)) (hP : PartsIn W a P) (hz : cfgV w p P = 0) : Calls Tryz.prog 30 #[.agg #[.int .i64 (w : Int), .int .i64 (p : Int), .slice a P.length cap]] W fun e w' => ∃ B, e = .returned (.tuple #[.pointer (some ⟨B, 0, none⟩), .int .i64 0]) ∧ W.heap.size ≤ B ∧ MS B (cfP w p P) 0 [] w' ∧ Fr (fun _ => False) W w' := by
  have HF : Hid (Fr (fun _ => False) W (W.alloc (.cells #[.int .i64 (w : Int), .int .i64 (p : Int), .slice a P.length cap] 24))) := Fr.alloc _ _ _
  have HR := Lib.hid (RowAt.new W 24 #[.int .i64 (w : Int), .int .i64 (p : Int), .slice a P.length cap])
  have HP1 := Lib.hid (hP.fr HF.out (fun _ _ _ => id))
  have HC := Lib.hid (pcheck_any _ w p a cap P HP1.out)
  rw [hz] at HC
  have HZ := Lib.hid hz
  have HK := Lib.hid (cfg_ok hz)
  have HA : Hid (∀ b off, a = some ⟨b, off, none⟩ → P ≠ [] → b < W.heap.size) := fun b off e hne => by
    rcases hP with h | ⟨b', off', e', h', _⟩
    · exact absurd h hne
    · rw [e] at e'; cases e'; exact h'
  have HBM := Lib.hid (mq_new w p P.length)
  have HS1 : Hid ((W.alloc (.cells #[.int .i64 (w : Int), .int .i64 (p : Int), .slice a P.length cap] 24)).heap.size = W.heap.size + 1) := by show _ = _; simp
  clear hP hz
  go_enter Tryz.func30, Tryz.ntmps30
  go_upto_region 1 with (fail)
  generalize W.alloc _ = W1 at HF HR HP1 HC HS1 ⊢
  generalize hx : W.heap.size = x at HR HA HS1 ⊢
  have HX := Lib.hid hx
  clear hx
  have c0 : W1.cell? ⟨x, 0, none⟩ = some (.int .i64 (w : Int)) := HR.out.cell 0
  have c1 : W1.cell? ⟨x, 1, none⟩ = some (.int .i64 (p : Int)) := HR.out.cell 1
  have c2 : W1.cell? ⟨x, 2, none⟩ = some (.slice a P.length cap) := HR.out.cell 2
  go_upto_region 4 with (go_at_call 76; refine HC.out.mono ?_; rintro e W2 ⟨rfl, f2⟩; have F2 := Lib.hid f2; clear f2)
  have R2 := Lib.hid (HR.out.fr F2.out id)
  have P2 := Lib.hid (HP1.out.fr F2.out (fun _ _ _ => id))
  have X2 : Hid (x < W2.heap.size) := R2.out.lt
  clear c0 c1 c2 HC
  have c0 : W2.cell? ⟨x, 0, none⟩ = some (.int .i64 (w : Int)) := R2.out.cell 0
  have c1 : W2.cell? ⟨x, 1, none⟩ = some (.int .i64 (p : Int)) := R2.out.cell 1
  have c2 : W2.cell? ⟨x, 2, none⟩ = some (.slice a P.length cap) := R2.out.cell 2
  go_upto_region 5 with (fail)
  rw [HBM.out]
  have M3 : Hid (MAt (W2.alloc (.cells (mA (mq0 w p P.length)) 151)) W2.heap.size (budQ w p P P.length 0)) := by rw [budQ_zero]; exact RowAt.new W2 _ _
  have F3 : Hid (Fr (fun _ => False) W (W2.alloc (.cells (mA (mq0 w p P.length)) 151))) := HF.out.trans (F2.out.trans (Fr.alloc _ _ _))
  have R3 := Lib.hid (R2.out.fr (Fr.alloc (fun _ => False) W2 (.cells (mA (mq0 w p P.length)) 151)) id)
  have P3 := Lib.hid (P2.out.fr (Fr.alloc (fun _ => False) W2 (.cells (mA (mq0 w p P.length)) 151)) (fun _ _ _ => id))
  have HAB : Hid (∀ b off, a = some ⟨b, off, none⟩ → P ≠ [] → b ≠ W2.heap.size) := fun b off e hne => by have := HA.out b off e hne; have := X2.out; omega
  have HXB : Hid (x ≠ W2.heap.size ∧ W.heap.size ≤ W2.heap.size) := by have := X2.out; have := HX.out; exact ⟨by omega, by omega⟩
  clear c0 c1 c2 HBM F2 R2 P2 X2
  generalize W2.alloc _ = W3 at M3 F3 R3 P3 ⊢
  generalize W2.heap.size = B at M3 HAB HXB ⊢
  have n3 : W3.cell? ⟨B, 2, none⟩ = some (.int .i64 (P.length : Int)) := M3.out.np
  have HL : Hid (P.length ≤ 8) := HK.out.2.2.2.1
  have l8 : (P.length : Int) ≤ 8 := by have := HL.out; omega
  go_wp2
  go_loopw [26] (fun vi wr => ∃ i : Nat, vi = .int .i64 i ∧ Hid (i ≤ P.length ∧ MAt wr B (budQ w p P P.length i) ∧ Fr (fun k => k = B) W3 wr)) (fun vi _ => P.length - (intOf vi).toNat)
  case atStart => exact ⟨0, rfl, Nat.zero_le _, M3.out, Fr.refl _ _⟩
  case round =>
    obtain ⟨i, rfl, HQ⟩ := hrel
    have i0 : (0 : Int) ≤ i := by omega
    by_cases hi : i < P.length
    · have hrx : RowAt wr x 24 #[.int .i64 (w : Int), .int .i64 (p : Int), .slice a P.length cap] := R3.out.fr HQ.out.2.2 HXB.out.1
      obtain ⟨b, off, y, rfl, hy, e0, e1⟩ := (P3.out.fr HQ.out.2.2 (fun b off e => HAB.out b off e (by intro e; rw [e] at hi; cases hi))).get hi
      have i1 : (i : Int) < P.length := by omega
      have HI := Lib.hid hi
      have HY := Lib.hid hy
      have d0 : wr.cell? ⟨x, 0, none⟩ = some (.int .i64 (w : Int)) := hrx.cell 0
      have d1 : wr.cell? ⟨x, 1, none⟩ = some (.int .i64 (p : Int)) := hrx.cell 1
      have d2 : wr.cell? ⟨x, 2, none⟩ = some (.slice (some ⟨b, off, none⟩) P.length cap) := hrx.cell 2
      have HRX := Lib.hid hrx
      have hpc := HK.out.2.2.2.2 y (List.mem_of_getElem? hy)
      have HB1 : Hid (∀ W2, Calls Tryz.prog 77 #[.agg #[.int .i64 (w : Int), .int .i64 (p : Int), .slice (some ⟨b, off, none⟩) P.length cap], .int .i64 y.1] W2 fun e w' => e = .returned (.int .i64 (budI w p y.1)) ∧ Fr (fun _ => False) W2 w') := fun W2 => bud_any W2 w p y.1 _ _ _ HK.out.1 HK.out.2.1 hpc.1
      have HB2 : Hid (∀ W2, Calls Tryz.prog 77 #[.agg #[.int .i64 (w : Int), .int .i64 (p : Int), .slice (some ⟨b, off, none⟩) P.length cap], .int .i64 y.2] W2 fun e w' => e = .returned (.int .i64 (budI w p y.2)) ∧ Fr (fun _ => False) W2 w') := fun W2 => bud_any W2 w p y.2 _ _ _ HK.out.1 HK.out.2.1 hpc.2
      clear hi hy hrx hpc
      go_upto_region 9 with (fail)
      generalize hy1 : y.1 = y1 at e0 HB1 ⊢
      generalize hy2 : y.2 = y2 at e1 HB2 ⊢
      have HY12 : Hid (y.1 = y1 ∧ y.2 = y2) := ⟨hy1, hy2⟩
      have M4 := Lib.hid (HQ.out.2.1.fr (Fr.alloc (fun _ => False) wr (.cells #[.int .i64 y1, .int .i64 y2] 99)) id)
      have F4 := Lib.hid (HQ.out.2.2.trans (Fr.alloc (fun k => k = B) wr (.cells #[.int .i64 y1, .int .i64 y2] 99)))
      have R4 := Lib.hid (HRX.out.fr (Fr.alloc (fun _ => False) wr (.cells #[.int .i64 y1, .int .i64 y2] 99)) id)
      have Y4 := Lib.hid (RowAt.new wr 99 #[.int .i64 y1, .int .i64 y2])
      have yB : wr.heap.size ≠ B := by have := HQ.out.2.1.lt; omega
      clear d0 d1 d2 e0 e1 hy1 hy2 HRX
      generalize wr.alloc _ = W4 at M4 F4 R4 Y4 ⊢
      generalize wr.heap.size = yb at Y4 yB ⊢
      have xB : x ≠ B := HXB.out.1
      have q0 : W4.cell? ⟨x, 0, none⟩ = some (.int .i64 (w : Int)) := R4.out.cell 0
      have q1 : W4.cell? ⟨x, 1, none⟩ = some (.int .i64 (p : Int)) := R4.out.cell 1
      have q2 : W4.cell? ⟨x, 2, none⟩ = some (.slice (some ⟨b, off, none⟩) P.length cap) := R4.out.cell 2
      have z0 : W4.cell? ⟨yb, 0, none⟩ = some (.int .i64 y1) := Y4.out.cell 0
      have z1 : W4.cell? ⟨yb, 1, none⟩ = some (.int .i64 y2) := Y4.out.cell 1
      have i8 : (i : Int) < 8 := by have := HI.out; have := HL.out; omega
      have HC : Hid (∀ W5, Fr (fun _ => False) W4.drew W5 → (W5.cell? ⟨x, 0, none⟩ = some (.int .i64 (w : Int)) ∧ W5.cell? ⟨x, 1, none⟩ = some (.int .i64 (p : Int)) ∧ W5.cell? ⟨x, 2, none⟩ = some (.slice (some ⟨b, off, none⟩) P.length cap) ∧ W5.cell? ⟨yb, 0, none⟩ = some (.int .i64 y1) ∧ W5.cell? ⟨yb, 1, none⟩ = some (.int .i64 y2)) ∧ MAt W5 B (budQ w p P P.length i) ∧ Fr (fun k => k = B) W3 W5) := fun W5 f => by
        have r := (show RowAt W4.drew x _ _ from R4.out).fr f id
        have s := (show RowAt W4.drew yb _ _ from Y4.out).fr f id
        exact ⟨⟨r.cell 0, r.cell 1, r.cell 2, s.cell 0, s.cell 1⟩, (show MAt W4.drew B _ from M4.out).fr f id, F4.out.trans ((Fr.drew _ _).trans (f.mono fun _ _ e => e.elim))⟩
      have HGT : Hid (∀ W5, MAt W5 B (budQ w p P P.length i) → (W5.cell? ⟨B, 3 + i * 4, none⟩ = some (.int .i64 0) ∧ W5.cell? ⟨B, 3 + i * 4 + 1, none⟩ = some (.int .i64 0) ∧ W5.cell? ⟨B, 3 + i * 4 + 2, none⟩ = some (.int .i64 0) ∧ W5.cell? ⟨B, 3 + i * 4 + 3, none⟩ = some (.int .i64 0)) ∧ (W5.frozen? ⟨B, 3 + i * 4, none⟩ = false ∧ W5.frozen? ⟨B, 3 + i * 4 + 1, none⟩ = false ∧ W5.frozen? ⟨B, 3 + i * 4 + 2, none⟩ = false ∧ W5.frozen? ⟨B, 3 + i * 4 + 3, none⟩ = false)) := fun W5 m => by
        have hi8 : i < 8 := by have := HI.out; have := HL.out; omega
        have c0 := m.bud i hi8
        have c1 := m.cri i hi8
        have c2 := m.use i hi8
        have c3 := m.ucr i hi8
        rw [show (budQ w p P P.length i).bud i = 0 from if_neg (by omega)] at c0
        rw [show (budQ w p P P.length i).cri i = 0 from if_neg (by omega)] at c1
        exact ⟨⟨c0, c1, c2, c3⟩, m.frozen _, m.frozen _, m.frozen _, m.frozen _⟩
      obtain ⟨v1, hv1⟩ : ∃ v, budI w p y1 = v := ⟨_, rfl⟩
      obtain ⟨v2, hv2⟩ : ∃ v, budI w p y2 = v := ⟨_, rfl⟩
      rw [hv1] at HB1
      rw [hv2] at HB2
      have HV12 : Hid (budI w p y1 = v1 ∧ budI w p y2 = v2) := ⟨hv1, hv2⟩
      clear hv1 hv2 M4 F4 R4 Y4
      have HST : Hid (∀ (W5 : World) (o : Nat) (v : Value), (W5.cell? ⟨x, 0, none⟩ = some (.int .i64 (w : Int)) ∧ W5.cell? ⟨x, 1, none⟩ = some (.int .i64 (p : Int)) ∧ W5.cell? ⟨x, 2, none⟩ = some (.slice (some ⟨b, off, none⟩) P.length cap) ∧ W5.cell? ⟨yb, 0, none⟩ = some (.int .i64 y1) ∧ W5.cell? ⟨yb, 1, none⟩ = some (.int .i64 y2)) → ((W5.setCell ⟨B, o, none⟩ v).cell? ⟨x, 0, none⟩ = some (.int .i64 (w : Int)) ∧ (W5.setCell ⟨B, o, none⟩ v).cell? ⟨x, 1, none⟩ = some (.int .i64 (p : Int)) ∧ (W5.setCell ⟨B, o, none⟩ v).cell? ⟨x, 2, none⟩ = some (.slice (some ⟨b, off, none⟩) P.length cap) ∧ (W5.setCell ⟨B, o, none⟩ v).cell? ⟨yb, 0, none⟩ = some (.int .i64 y1) ∧ (W5.setCell ⟨B, o, none⟩ v).cell? ⟨yb, 1, none⟩ = some (.int .i64 y2))) := fun W5 o v ⟨s0, s1, s2, s3, s4⟩ => by
        have hx : (W5.setCell ⟨B, o, none⟩ v).heap[x]? = W5.heap[x]? := heap_setCell_other _ _ _ _ xB
        have hy : (W5.setCell ⟨B, o, none⟩ v).heap[yb]? = W5.heap[yb]? := heap_setCell_other _ _ _ _ yB
        exact ⟨(World.cell?_of_block hx).trans s0, (World.cell?_of_block hx).trans s1, (World.cell?_of_block hx).trans s2, (World.cell?_of_block hy).trans s3, (World.cell?_of_block hy).trans s4⟩
      have n1 := HB1
      clear HB1
      go_region_held3 (fun w' => w'.cell? ⟨x, 0, none⟩ = some (.int .i64 (w : Int)) ∧ w'.cell? ⟨x, 1, none⟩ = some (.int .i64 (p : Int)) ∧ w'.cell? ⟨x, 2, none⟩ = some (.slice (some ⟨b, off, none⟩) P.length cap) ∧ w'.cell? ⟨yb, 0, none⟩ = some (.int .i64 y1) ∧ w'.cell? ⟨yb, 1, none⟩ = some (.int .i64 y2))
        (first | (with_reducible exact HST.out _ _ _ (HST.out _ _ _ (HST.out _ _ _ (HST.out _ _ _ (HC.out _ F6.out).1)))) | (with_reducible exact (HC.out _ F6.out).1) | (with_reducible exact (HC.out _ F5.out).1) | exact ⟨q0, q1, q2, z0, z1⟩ | go_keep)
        (first
          | (go_at_call 77; refine (n1.out _).mono ?_; clear n1; rintro e W5 ⟨rfl, f5⟩; have F5 : Hid (Fr (fun _ => False) W4.drew W5) := f5; clear f5)
          | (go_at_call 77; refine (HB2.out _).mono ?_; rintro e W6 ⟨rfl, f6⟩; have F6 : Hid (Fr (fun _ => False) W4.drew W6) := F5.out.trans f6; clear f6; obtain ⟨⟨g0, g1, g2, g3⟩, k0, k1, k2, k3⟩ := HGT.out _ (HC.out _ F6.out).2.1))
      go_wp2
      go_roundw
      case rel =>
        obtain ⟨_, hm6, hf6⟩ := HC.out _ F6.out
        refine ⟨i + 1, rfl, HI.out, ?_, ((((hf6.trans (Fr.set _ _ _ _ rfl)).trans (Fr.set _ _ _ _ rfl)).trans (Fr.set _ _ _ _ rfl)).trans (Fr.set _ _ _ _ rfl))⟩
        have := (((hm6.setBud i (by have := HI.out; have := HL.out; omega) v1).setCri i (by have := HI.out; have := HL.out; omega) v2).setUse i (by have := HI.out; have := HL.out; omega) 0).setUcr i (by have := HI.out; have := HL.out; omega) 0
        rw [← budQ_succ (v1 := v1) (v2 := v2) HI.out HY.out (by rw [HY12.out.1]; exact HV12.out.1) (by rw [HY12.out.2]; exact HV12.out.2)]
        exact this
      case measure =>
        have := HI.out
        show P.length - (intOf (Value.int .i64 ((i : Int) + 1))).toNat < P.length - (intOf (Value.int .i64 (i : Int))).toNat
        simp only [intOf]
        omega
    · have hlt : ¬ (i : Int) < P.length := by omega
      have HE : Hid (i = P.length) := by have := HQ.out.1; show _ = _; omega
      clear hi
      go_wp2
      go_ret2
      refine ⟨B, rfl, HXB.out.2, ⟨_, HQ.out.2.1, LI.new w p P.length P HZ.out rfl _, ?_, rfl⟩, ((F3.out.mono (T := fun k => k = B) (fun _ _ e => e.elim)).trans HQ.out.2.2).mono (fun k hk e => by have := HXB.out.2; omega)⟩
      rw [HE.out]; rfl
end Go.Proofs.YtjaaljcdaamcjaaGreat.Pa
