/- The meter's ask, Used, UsedCritical, HasBudget, Bankrupt. -/
import Derived.Test.YtjaaljcdaamcjaaGreatMe
namespace Go.Proofs.YtjaaljcdaamcjaaGreat.Pa
open Go.RowKit
set_option linter.unusedVariables false

theorem results_row_tmp {P : Program} {fn : Func} {p q : Tmp} {ty : TypeId} (h : fn.results = #[.cell p ty, .tmp q]) (tmps : Array Value) (w : World) (g : Nat) (t : TypeId) (cs : Array Value) (d : TypeDesc) (v : Value)
    (hp : tmps.getD p undef = .pointer (some ⟨g, 0, none⟩)) (hg : w.heap[g]? = some (.cells cs t (0, 0)))
    (hu : P.underlying ty = some d) (hd : (match d with | .struct _ | .array _ _ => true | _ => false) = true) (hi : (P.info? ty).map (·.size) = some cs.size)
    (hq : tmps.getD q undef = v) :
    (results fn tmps).run P w = .ok (.tuple #[.agg cs, v]) w := by
  have hp' : tmps[p]?.getD undef = .pointer (some ⟨g, 0, none⟩) := by simpa using hp
  have hq' : tmps[q]?.getD undef = v := by simpa using hq
  simp [results, h, hp', hq', asAddr, run_loadVar_row w g t ty cs (0, 0) d hg hu hd hi]
theorem chk_ok {np T : Nat} {now : Int} {ps : List Int} : chkP4 np T now ps = 0 ↔ (0 ≤ now ∧ now ≤ 1099511627776) ∧ ps.all (hasB np) = true ∧ (T : Int) ≤ now := by
  rw [chkP4]
  split
  · constructor
    · intro h; cases h
    · intro h; omega
  · split
    · split
      · constructor
        · intro h; cases h
        · intro h; omega
      · rename_i h1 h2 h3
        exact ⟨fun _ => ⟨by omega, h2, by omega⟩, fun _ => rfl⟩
    · rename_i h1 h2
      constructor
      · intro h; cases h
      · intro h; exact absurd h.2.1 h2
def zero4 : Array Value := #[.int .i64 0, .int .i64 0, .int .i64 0, .int .i64 0]
def acc4 (C : CF) (L : List Ch) (n k : Nat) : Array Value := #[.int .i64 (C.bud k), .int .i64 (C.cri k), .int .i64 (useL L C.win n k : Nat), .int .i64 (ucrL L C.win n k : Nat)]
set_option maxRecDepth 100000 in
set_option maxHeartbeats 1000000 in
theorem ask_nil (now p : Int) (W : World) : Calls Tryz.prog 144 #[.pointer none, .int .i64 now, .int .i64 p] W fun e w' => e = .returned (.tuple #[.agg zero4, .int .i64 35]) ∧ Fr (fun _ => False) W w' := by
  go_enter Tryz.func144, Tryz.ntmps144
  go_wp2_with (go_at_call 145; refine (check_nil _ _ _).mono ?_; rintro e w' ⟨rfl, rfl⟩)
  have HG : Hid (RowAt ((W.alloc (.cells zero4 143)).alloc (.cells #[.int .i64 p] 3)) W.heap.size 143 zero4) := (RowAt.new W _ _).fr (Fr.alloc (fun _ => False) _ _) id
  have HI : Hid ((Tryz.prog.info? 143).map (·.size) = some zero4.size) := by show _ = _; kernel_rfl
  refine bodyPost_ret (results_row_tmp rfl _ _ W.heap.size 143 zero4 _ _ rfl HG.out Tryz.underlying143 rfl HI.out rfl) rfl ⟨rfl, (Fr.alloc _ _ _).trans (Fr.alloc _ _ _)⟩
set_option maxRecDepth 100000 in
set_option maxHeartbeats 1000000 in
theorem ask_err {W : World} {B T : Nat} {C : CF} {L : List Ch} (h : MS B C T L W) (now p : Int) (z : Int) (hz : chkP4 C.np T now [p] = z) (h0 : z ≠ 0) : Calls Tryz.prog 144 #[.pointer (some ⟨B, 0, none⟩), .int .i64 now, .int .i64 p] W fun e w' => e = .returned (.tuple #[.agg zero4, .int .i64 z]) ∧ Fr (fun _ => False) W w' := by
  obtain ⟨q, hm, hL, rfl, rfl⟩ := h
  have HC : Hid (∀ W2 g, Fr (fun _ => False) W W2 → W2.cell? ⟨g, 0, none⟩ = some (.int .i64 p) → Calls Tryz.prog 145 #[.pointer (some ⟨B, 0, none⟩), .int .i64 now, .slice (some ⟨g, 0, none⟩) 1 1] W2 fun e w' => e = .returned (.int .i64 z) ∧ W2 = w') := fun W2 g f hc => by
    rw [← hz]
    refine check_any (hm.fr f id) now [p] (by simp) g 1 fun i x hx => ?_
    match i, hx with
    | 0, hx => cases hx; exact hc
  have hz' : (z != 0) = true := by simpa using h0
  clear hm hL hz h0
  go_enter Tryz.func144, Tryz.ntmps144
  go_wp2_with (go_at_call 145; refine (HC.out _ _ ((Fr.alloc _ _ _).trans (Fr.alloc _ _ _)) (by go_simp)).mono ?_; rintro e w' ⟨rfl, rfl⟩)
  have HG : Hid (RowAt ((W.alloc (.cells zero4 143)).alloc (.cells #[.int .i64 p] 3)) W.heap.size 143 zero4) := (RowAt.new W _ _).fr (Fr.alloc (fun _ => False) _ _) id
  have HI : Hid ((Tryz.prog.info? 143).map (·.size) = some zero4.size) := by show _ = _; kernel_rfl
  refine bodyPost_ret (results_row_tmp rfl _ _ W.heap.size 143 zero4 _ _ rfl HG.out Tryz.underlying143 rfl HI.out rfl) rfl ⟨rfl, (Fr.alloc _ _ _).trans (Fr.alloc _ _ _)⟩
set_option maxRecDepth 100000 in
set_option maxHeartbeats 1000000 in
theorem ask_ok {W : World} {B T : Nat} {C : CF} {L : List Ch} (h : MS B C T L W) (n k : Nat) (h0 : T ≤ n) (h1 : n ≤ 1099511627776) (hk : k < C.np) : Calls Tryz.prog 144 #[.pointer (some ⟨B, 0, none⟩), .int .i64 (n : Int), .int .i64 (k : Int)] W fun e w' => e = .returned (.tuple #[.agg (acc4 C L n k), .int .i64 0]) ∧ MS B C n L w' ∧ Fr (fun j => j = B) W w' := by
  have h8 : k < 8 := by obtain ⟨q, hm, hL, rfl, rfl⟩ := h; have := hL.np1; have : k < q.np := hk; omega
  have HC : Hid (∀ W2 g, Fr (fun _ => False) W W2 → W2.cell? ⟨g, 0, none⟩ = some (.int .i64 (k : Int)) → Calls Tryz.prog 145 #[.pointer (some ⟨B, 0, none⟩), .int .i64 (n : Int), .slice (some ⟨g, 0, none⟩) 1 1] W2 fun e w' => e = .returned (.int .i64 0) ∧ W2 = w') := fun W2 g f hc => by
    obtain ⟨q, hm, hL, rfl, rfl⟩ := h
    rw [← show chkP4 q.np q.told (n : Int) [(k : Int)] = 0 from chk_ok.2 ⟨by omega, by simp [hasB]; exact hk, by omega⟩]
    refine check_any (hm.fr f id) n [(k : Int)] (by simp) g 1 fun i x hx => ?_
    match i, hx with
    | 0, hx => cases hx; exact hc
  have HT : Hid (∀ W2, Fr (fun _ => False) W W2 → Calls Tryz.prog 146 #[.pointer (some ⟨B, 0, none⟩), .int .i64 (n : Int)] W2 fun e w' => (∃ v, e = .returned v) ∧ MS B C n L w' ∧ Fr (fun j => j = B) W2 w') := fun W2 f => tell_any (h.fr f id) n h0 h1
  have HB : Hid (B < W.heap.size) := h.lt
  have k0 : (0 : Int) ≤ k := by omega
  have k8 : (k : Int) < 8 := by omega
  have H8 := Lib.hid h8
  clear h h0 h1 hk h8
  go_enter Tryz.func144, Tryz.ntmps144
  go_upto_region 5 with (first
    | (go_at_call 145; refine (HC.out _ _ ((Fr.alloc _ _ _).trans (Fr.alloc _ _ _)) (by go_simp)).mono ?_; rintro e w' ⟨rfl, rfl⟩)
    | (go_at_call 146; refine (HT.out _ ((Fr.alloc _ _ _).trans (Fr.alloc _ _ _))).mono ?_; rintro e W3 ⟨⟨v3, rfl⟩, m3, f3⟩; have M3 := Lib.hid m3; have F3 := Lib.hid f3; clear m3 f3))
  have HG : Hid (RowAt W3 W.heap.size 143 zero4) := ((RowAt.new W 143 zero4).fr (Fr.alloc (fun _ => False) _ _) id).fr F3.out (by have := HB.out; omega)
  have HF : Hid (Fr (fun j => j = B) W W3) := (Fr.alloc _ _ _).trans ((Fr.alloc _ _ _).trans F3.out)
  clear F3 HC HT
  have HBN : Hid (B ≠ W.heap.size) := Nat.ne_of_lt HB.out
  generalize hb : W.heap.size = b at HG HBN ⊢
  have HBS := Lib.hid hb
  clear hb
  obtain ⟨q, hm, hL, hc, ht⟩ := M3.out
  have c0 := hm.bud k H8.out
  have c1 := hm.cri k H8.out
  have c2 := hm.use k H8.out
  have c3 := hm.ucr k H8.out
  rw [hL.use, show q.win = C.win from congrArg CF.win hc, ht] at c2
  rw [hL.ucr, show q.win = C.win from congrArg CF.win hc, ht] at c3
  rw [show q.bud k = C.bud k from congrFun (congrArg CF.bud hc) k] at c0
  rw [show q.cri k = C.cri k from congrFun (congrArg CF.cri hc) k] at c1
  have f0 := HG.out.frozen 0
  have f1 := HG.out.frozen 1
  have f2 := HG.out.frozen 2
  have f3 := HG.out.frozen 3
  have z0 : W3.cell? ⟨b, 0, none⟩ = some (.int .i64 0) := HG.out.cell 0
  have z1 : W3.cell? ⟨b, 1, none⟩ = some (.int .i64 0) := HG.out.cell 1
  have z2 : W3.cell? ⟨b, 2, none⟩ = some (.int .i64 0) := HG.out.cell 2
  have z3 : W3.cell? ⟨b, 3, none⟩ = some (.int .i64 0) := HG.out.cell 3
  clear hm hL hc ht
  go_wp2
  have HR := Lib.hid ((((HG.out.set 0 (.int .i64 (C.bud k))).set 1 (.int .i64 (C.cri k))).set 2 (.int .i64 (useL L C.win n k : Nat))).set 3 (.int .i64 (ucrL L C.win n k : Nat)))
  have HI : Hid ((Tryz.prog.info? 143).map (·.size) = some (acc4 C L n k).size) := by show _ = _; unfold acc4; kernel_rfl
  refine bodyPost_ret (results_row_tmp rfl _ _ b 143 (acc4 C L n k) _ _ rfl HR.out Tryz.underlying143 rfl HI.out rfl) rfl ⟨rfl, ?_, ?_⟩
  · have hs : ∀ (w : World) i v, MS B C n L w → MS B C n L (w.setCell ⟨b, i, none⟩ v) := fun w i v h => h.fr (Fr.set (S := fun j => j = b) _ _ _ _ rfl) HBN.out
    exact hs _ _ _ (hs _ _ _ (hs _ _ _ (hs _ _ _ M3.out)))
  · have hs : ∀ (w : World) i v, Fr (fun j => j = B ∨ j = b) W w → Fr (fun j => j = B ∨ j = b) W (w.setCell ⟨b, i, none⟩ v) := fun w i v h => h.trans (Fr.set _ _ _ _ (.inr rfl))
    exact (hs _ _ _ (hs _ _ _ (hs _ _ _ (hs _ _ _ (HF.out.mono fun _ _ e => .inl e))))).mono fun j hj e => e.resolve_right fun e2 => by have := HBS.out; omega

/-- The error of a call, and the time that is told behind it. -/
def erV (C : CF) (T : Nat) (now : Int) (ps : List Int) : Int := chkP4 C.np T now ps
def tiV (C : CF) (T : Nat) (now : Int) (ps : List Int) : Nat := if erV C T now ps = 0 then now.toNat else T
/-- Answers v; then the time T' is told, and L is charged. -/
def MR (v : Value) (B : Nat) (C : CF) (T' : Nat) (L' : List Ch) (W : World) (e : Ending) (w' : World) : Prop := e = .returned v ∧ MS B C T' L' w' ∧ Fr (fun j => j = B) W w'
theorem er_cases {C : CF} {T : Nat} {now p : Int} : (∃ z, erV C T now [p] = z ∧ z ≠ 0 ∧ tiV C T now [p] = T) ∨ ∃ n k : Nat, now = n ∧ p = k ∧ erV C T now [p] = 0 ∧ tiV C T now [p] = n ∧ T ≤ n ∧ n ≤ 1099511627776 ∧ k < C.np := by
  by_cases h : erV C T now [p] = 0
  · obtain ⟨h1, h2, h3⟩ := chk_ok.1 h
    have h4 := (hasB_iff C.np p).1 (by simpa using h2)
    exact .inr ⟨now.toNat, p.toNat, by omega, by omega, h, by rw [tiV, if_pos h], by omega, by omega, by omega⟩
  · exact .inl ⟨_, rfl, h, by rw [tiV, if_neg h]⟩
/-- What Used and UsedCritical answer. -/
def usV (C : CF) (T : Nat) (L : List Ch) (now p : Int) : Int × Int := if erV C T now [p] = 0 then ((useL L C.win now.toNat p.toNat : Nat), 0) else (0, erV C T now [p])
def ucV (C : CF) (T : Nat) (L : List Ch) (now p : Int) : Int × Int := if erV C T now [p] = 0 then ((ucrL L C.win now.toNat p.toNat : Nat), 0) else (0, erV C T now [p])
def hbV (C : CF) (T : Nat) (L : List Ch) (now p : Int) : Bool × Int := if erV C T now [p] = 0 then (decide ((useL L C.win now.toNat p.toNat : Int) < C.bud p.toNat), 0) else (false, erV C T now [p])
def bkV (C : CF) (T : Nat) (L : List Ch) (now p : Int) : Bool × Int := if erV C T now [p] = 0 then (decide (C.cri p.toNat ≤ (ucrL L C.win now.toNat p.toNat : Int)), 0) else (false, erV C T now [p])
set_option maxRecDepth 100000 in
theorem hasb_nil (now p : Int) (W : World) : Calls Tryz.prog 108 #[.pointer none, .int .i64 now, .int .i64 p] W fun e w' => e = .returned (.tuple #[.bool false, .int .i64 35]) ∧ Fr (fun _ => False) W w' := by
  go_enter Tryz.func108, Tryz.ntmps108
  go_wp2_with (go_at_call 144; refine (ask_nil _ _ _).mono ?_; rintro e W2 ⟨rfl, f2⟩; have F2 := Lib.hid f2; clear f2; unfold zero4)
  go_ret2
  exact ⟨rfl, F2.out.trans (Fr.alloc _ _ _)⟩
set_option maxRecDepth 100000 in
set_option maxHeartbeats 1000000 in
theorem hasb_any {W : World} {B T : Nat} {C : CF} {L : List Ch} (h : MS B C T L W) (now p : Int) : Calls Tryz.prog 108 #[.pointer (some ⟨B, 0, none⟩), .int .i64 now, .int .i64 p] W (MR (.tuple #[.bool (hbV C T L now p).1, .int .i64 (hbV C T L now p).2]) B C (tiV C T now [p]) L W) := by
  have HH := Lib.hid h
  have HB : Hid (B < W.heap.size) := h.lt
  rcases er_cases (C := C) (T := T) (now := now) (p := p) with ⟨z, hz, h0, ht⟩ | ⟨n, k, rfl, rfl, hz, ht, h1, h2, h3⟩
  · have HV : Hid (hbV C T L now p = (false, z)) := by show _ = _; rw [hbV, hz, if_neg h0]
    rw [HV.out, ht]
    have HA := Lib.hid (ask_err h now p z hz h0)
    have hz0 : (z == 0) = false := by simpa using h0
    clear h hz h0 ht
    go_enter Tryz.func108, Tryz.ntmps108
    go_wp2_with (go_at_call 144; refine HA.out.mono ?_; rintro e W2 ⟨rfl, f2⟩; have F2 := Lib.hid f2; clear f2; unfold zero4)
    go_ret2
    have hf := F2.out.trans (Fr.alloc _ W2 (.cells #[.int .i64 0, .int .i64 0, .int .i64 0, .int .i64 0] 143))
    exact ⟨rfl, HH.out.fr hf id, hf.mono fun _ _ e => e.elim⟩
  · have HV : Hid (hbV C T L n k = (decide ((useL L C.win n k : Int) < C.bud k), 0)) := by show _ = _; rw [hbV, if_pos hz]; simp only [Int.toNat_natCast]
    rw [HV.out, ht]
    have HA := Lib.hid (ask_ok h n k h1 h2 h3)
    clear h hz h1 h2 h3 ht
    go_enter Tryz.func108, Tryz.ntmps108
    go_wp2_with (go_at_call 144; refine HA.out.mono ?_; rintro e W2 ⟨rfl, m2, f2⟩; have M2 := Lib.hid m2; have F2 := Lib.hid f2; clear m2 f2; unfold acc4)
    go_ret2
    have hf := Fr.alloc (fun _ => False) W2 (.cells (acc4 C L n k) 143)
    exact ⟨rfl, M2.out.fr hf id, F2.out.trans (hf.mono fun _ _ e => e.elim)⟩
set_option maxRecDepth 100000 in
theorem bank_nil (now p : Int) (W : World) : Calls Tryz.prog 165 #[.pointer none, .int .i64 now, .int .i64 p] W fun e w' => e = .returned (.tuple #[.bool false, .int .i64 35]) ∧ Fr (fun _ => False) W w' := by
  go_enter Tryz.func165, Tryz.ntmps165
  go_wp2_with (go_at_call 144; refine (ask_nil _ _ _).mono ?_; rintro e W2 ⟨rfl, f2⟩; have F2 := Lib.hid f2; clear f2; unfold zero4)
  go_ret2
  exact ⟨rfl, F2.out.trans (Fr.alloc _ _ _)⟩
set_option maxRecDepth 100000 in
set_option maxHeartbeats 1000000 in
theorem bank_any {W : World} {B T : Nat} {C : CF} {L : List Ch} (h : MS B C T L W) (now p : Int) : Calls Tryz.prog 165 #[.pointer (some ⟨B, 0, none⟩), .int .i64 now, .int .i64 p] W (MR (.tuple #[.bool (bkV C T L now p).1, .int .i64 (bkV C T L now p).2]) B C (tiV C T now [p]) L W) := by
  have HH := Lib.hid h
  have HB : Hid (B < W.heap.size) := h.lt
  rcases er_cases (C := C) (T := T) (now := now) (p := p) with ⟨z, hz, h0, ht⟩ | ⟨n, k, rfl, rfl, hz, ht, h1, h2, h3⟩
  · have HV : Hid (bkV C T L now p = (false, z)) := by show _ = _; rw [bkV, hz, if_neg h0]
    rw [HV.out, ht]
    have HA := Lib.hid (ask_err h now p z hz h0)
    have hz0 : (z == 0) = false := by simpa using h0
    clear h hz h0 ht
    go_enter Tryz.func165, Tryz.ntmps165
    go_wp2_with (go_at_call 144; refine HA.out.mono ?_; rintro e W2 ⟨rfl, f2⟩; have F2 := Lib.hid f2; clear f2; unfold zero4)
    go_ret2
    have hf := F2.out.trans (Fr.alloc _ W2 (.cells #[.int .i64 0, .int .i64 0, .int .i64 0, .int .i64 0] 143))
    exact ⟨rfl, HH.out.fr hf id, hf.mono fun _ _ e => e.elim⟩
  · have HV : Hid (bkV C T L n k = (decide (C.cri k ≤ (ucrL L C.win n k : Int)), 0)) := by show _ = _; rw [bkV, if_pos hz]; simp only [Int.toNat_natCast]
    rw [HV.out, ht]
    have HA := Lib.hid (ask_ok h n k h1 h2 h3)
    clear h hz h1 h2 h3 ht
    go_enter Tryz.func165, Tryz.ntmps165
    go_wp2_with (go_at_call 144; refine HA.out.mono ?_; rintro e W2 ⟨rfl, m2, f2⟩; have M2 := Lib.hid m2; have F2 := Lib.hid f2; clear m2 f2; unfold acc4)
    go_ret2
    have hf := Fr.alloc (fun _ => False) W2 (.cells (acc4 C L n k) 143)
    exact ⟨rfl, M2.out.fr hf id, F2.out.trans (hf.mono fun _ _ e => e.elim)⟩
end Go.Proofs.YtjaaljcdaamcjaaGreat.Pa
