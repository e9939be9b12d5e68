/- The meter's step and tell. -/
import Derived.Test.YtjaaljcdaamcjaaGreatMd
namespace Go.Proofs.YtjaaljcdaamcjaaGreat.Pa
open Go.RowKit
set_option linter.unusedVariables false

def zs : List Value := (List.range 24).map fun k => chgV none (k % 3)
theorem zs_one : zs.toArray.all (·.oneCell') = true := by decide +kernel
theorem zs_get (k : Nat) (h : k < 24) : zs[k]? = some (chgV none (k % 3)) := by simp [zs, h]
theorem MAt.clear {W : World} {B : Nat} {q : MQ} (h : MAt W B q) (s : Nat) (hs : s < 1000) : MAt (W.setCells B (35 + s * 24) zs) B { q with sl := updL q.sl s [] } := by
  have := mA_slot q s 0 8 [] zs hs (by omega) rfl W h (fun j f h1 h2 h3 => by
    rw [zs_get _ (by omega), show ((j - 0) * 3 + f) % 3 = f from by omega]; simp) (fun j f h1 h2 h3 => by omega)
  rw [Nat.zero_mul, Nat.add_zero] at this
  exact this
theorem MAt.there {W : World} {B : Nat} {q : MQ} (h : MAt W B q) (s : Nat) (hs : s < 1000) : W.there B (35 + s * 24) 24 := fun j hj => by
  refine ⟨?_, h.frozen _⟩
  have := h.chg s (j / 3) (j % 3) hs (by omega) (by omega)
  rw [show 35 + s * 24 + j / 3 * 3 + j % 3 = 35 + s * 24 + j from by omega] at this
  rw [this]; rfl

set_option maxRecDepth 100000 in
set_option maxHeartbeats 2000000 in
theorem step_any {W : World} {B : Nat} {q : MQ} {L : List Ch} (h : MAt W B q) (hL : LI q L) (ht : q.told < 1099511627776) : Calls Tryz.prog 172 #[.pointer (some ⟨B, 0, none⟩)] W fun e w' => (∃ v, e = .returned v) ∧ MAt w' B (stepQ q) ∧ Fr (fun k => k = B) W w' := by
  have w0 := hL.w0
  have w1 := hL.w1
  have HW : Hid (q.told % q.win < q.win ∧ (q.told + 1) % q.win < q.win) := ⟨Nat.mod_lt _ w0, Nat.mod_lt _ w0⟩
  have HLI := Lib.hid hL
  have HM := Lib.hid h
  have c5 := h.told
  have t0 : (0 : Int) ≤ q.told := by omega
  have t1 : (q.told : Int) < 1099511627776 := by omega
  have HS0 : Hid (∀ (W2 : World), Fr (fun _ => False) W W2 → Calls Tryz.prog 195 #[.pointer (some ⟨B, 0, none⟩), .pointer (some ⟨B, 35 + q.told % q.win * 24, none⟩), .int .i64 1] W2 fun e w' => (∃ v, e = .returned v) ∧ MAt w' B (cntQ q (q.sl (q.told % q.win)) 1) ∧ Fr (fun k => k = B) W2 w') := fun W2 f =>
    count_any (h.fr f id) _ (by have := HW.out; omega) (Nat.le_trans (slot_len hL HW.out.1) hL.pr1) (fun c hc => Nat.lt_of_lt_of_le (slot_part hL HW.out.1 c hc) hL.np1) (fun p => by have := use_bound hL p; omega) 1 (.inl rfl)
  have HS1 : Hid (∀ (W2 : World), MAt W2 B (nextQ q) → Calls Tryz.prog 195 #[.pointer (some ⟨B, 0, none⟩), .pointer (some ⟨B, 35 + (q.told + 1) % q.win * 24, none⟩), .int .i64 (-1)] W2 fun e w' => (∃ v, e = .returned v) ∧ MAt w' B (backQ q) ∧ Fr (fun k => k = B) W2 w') := fun W2 hm =>
    count_any hm _ (by have := HW.out; omega) (Nat.le_trans (slot_len hL HW.out.2) hL.pr1) (fun c hc => Nat.lt_of_lt_of_le (slot_part hL HW.out.2 c hc) hL.np1) (fun p => by
      have h1 := use_bound hL p
      have h2 := cu_le (q.sl (q.told % q.win)) p
      have h3 := cc_le (q.sl (q.told % q.win)) p
      have h4 := slot_len hL HW.out.1
      have h5 := hL.pr1
      show (-1000000000 ≤ q.use p + 1 * (cu (q.sl (q.told % q.win)) p : Nat) ∧ q.use p + 1 * (cu (q.sl (q.told % q.win)) p : Nat) ≤ 1000000000) ∧ (-1000000000 ≤ q.ucr p + 1 * (cc (q.sl (q.told % q.win)) p : Nat) ∧ q.ucr p + 1 * (cc (q.sl (q.told % q.win)) p : Nat) ≤ 1000000000)
      omega) (-1) (.inr rfl)
  have HK : Hid (∀ (W2 : World), MAt W2 B (cntQ q (q.sl (q.told % q.win)) 1) → MAt (W2.setCell ⟨B, 24035, none⟩ (.int .i64 ((q.told : Int) + 1))) B (nextQ q)) := fun W2 hm => by
    have := hm.setTold (q.told + 1)
    push_cast at this
    exact this
  clear h hL
  go_enter Tryz.func172, Tryz.ntmps172
  go_upto_region 1 with (first
    | (go_at_call 147; refine (slotof_any HM.out w0 w1 q.told).mono ?_; rintro e W2 ⟨rfl, f2⟩; have F2 := Lib.hid f2; clear f2)
    | (go_at_call 195; refine (HS0.out _ F2.out).mono ?_; rintro e W3 ⟨⟨v3, rfl⟩, m3, f3⟩; have M3 := Lib.hid m3; have F3 := Lib.hid f3; clear m3 f3))
  have d5 : W3.cell? ⟨B, 24035, none⟩ = some (.int .i64 (q.told : Int)) := M3.out.told
  have f5 := M3.out.frozen 24035
  clear c5
  go_upto_region 2 with (fail)
  have M4 := Lib.hid (HK.out W3 M3.out)
  have F4 : Hid (Fr (fun k => k = B) W (W3.setCell ⟨B, 24035, none⟩ (.int .i64 ((q.told : Int) + 1)))) := (F2.out.mono (fun _ _ e => e.elim)).trans (F3.out.trans (Fr.set _ _ _ _ rfl))
  clear d5 f5
  generalize W3.setCell _ _ = W4 at M4 F4 ⊢
  have d5 : W4.cell? ⟨B, 24035, none⟩ = some (.int .i64 ((q.told + 1 : Nat) : Int)) := M4.out.told
  go_upto_region 4 with (first
    | (go_at_call 147; refine (slotof_any M4.out w0 w1 (q.told + 1)).mono ?_; rintro e W5 ⟨rfl, f5⟩; have F5 := Lib.hid f5; clear f5 d5)
    | (go_at_call 195; refine (HS1.out _ (M4.out.fr F5.out id)).mono ?_; rintro e W6 ⟨⟨v6, rfl⟩, m6, f6⟩; have M6 := Lib.hid m6; have F6 := Lib.hid f6; clear m6 f6))
  have HT : Hid (W6.there B (35 + (q.told + 1) % q.win * 24) zs.toArray.size) := M6.out.there _ (by have := HW.out; omega)
  have HI : Hid ((Tryz.prog.info? 148).map (·.size) = some zs.toArray.size) := by show _ = _; kernel_rfl
  have HZ : Hid (MAt (W6.setCells B (35 + (q.told + 1) % q.win * 24) zs.toArray.toList) B (stepQ q)) := by
    have := M6.out.clear ((q.told + 1) % q.win) (by have := HW.out; omega)
    exact this
  have HF : Hid (Fr (fun k => k = B) W (W6.setCells B (35 + (q.told + 1) % q.win * 24) zs.toArray.toList)) := F4.out.trans ((F5.out.mono (fun _ _ e => e.elim)).trans (F6.out.trans (fr_setCells _ _ _ _ rfl)))
  go_wp2_with (refine wpList_store_mid rfl 148 (Operand.tmp 29) (Operand.tmp 28) rfl B (35 + (q.told + 1) % q.win * 24) zs.toArray rfl rfl HT.out HI.out zs_one ?_)
  go_end0
  exact ⟨⟨_, rfl⟩, HZ.out, HF.out⟩

/-- The meter of configuration C lies in block B: the charges L were made, the time T was told. -/
def MS (B : Nat) (C : CF) (T : Nat) (L : List Ch) (W : World) : Prop := ∃ q, MAt W B q ∧ LI q L ∧ q.cf = C ∧ q.told = T
theorem MS.fr {B T : Nat} {C : CF} {L : List Ch} {W W' : World} {S : Nat → Prop} (h : MS B C T L W) (hf : Fr S W W') (hB : ¬ S B) : MS B C T L W' := by
  obtain ⟨q, h1, h2⟩ := h
  exact ⟨q, h1.fr hf hB, h2⟩
theorem MS.lt {B T : Nat} {C : CF} {L : List Ch} {W : World} (h : MS B C T L W) : B < W.heap.size := by obtain ⟨q, h1, h2⟩ := h; exact h1.lt
theorem stepQ_cf (q : MQ) : (stepQ q).cf = q.cf := rfl
theorem stepQ_told (q : MQ) : (stepQ q).told = q.told + 1 := rfl
theorem LI.same {q q' : MQ} {L : List Ch} (h : LI q L) (he : q' = q) : LI q' L := he ▸ h
set_option maxRecDepth 100000 in
set_option maxHeartbeats 2000000 in
theorem tell_any {W : World} {B T : Nat} {C : CF} {L : List Ch} (h : MS B C T L W) (now : Nat) (h0 : T ≤ now) (h1 : now ≤ 1099511627776) : Calls Tryz.prog 146 #[.pointer (some ⟨B, 0, none⟩), .int .i64 (now : Int)] W fun e w' => (∃ v, e = .returned v) ∧ MS B C now L w' ∧ Fr (fun k => k = B) W w' := by
  obtain ⟨q, hm, hL, rfl, rfl⟩ := h
  have c5 := hm.told
  have c0 := hm.win
  have a0 : (0 : Int) ≤ q.told := by omega
  have a1 : (q.told : Int) ≤ now := by omega
  have a2 : (now : Int) ≤ 1099511627776 := by omega
  have a3 : (0 : Int) < q.win := by have := hL.w0; omega
  have a4 : (q.win : Int) ≤ 1000 := by have := hL.w1; omega
  have HM := Lib.hid hm
  have HL := Lib.hid hL
  have HN : Hid (q.told ≤ now ∧ now ≤ 1099511627776) := ⟨h0, h1⟩
  clear hm hL h0 h1
  go_enter Tryz.func146, Tryz.ntmps146
  go_wp2
  go_region
  obtain ⟨n, hn⟩ : ∃ n : Nat, n = min q.win (now - q.told) := ⟨_, rfl⟩
  have hif : (if (q.win : Int) < (now : Int) - q.told then (q.win : Int) else (now : Int) - q.told) = (n : Int) := by
    have := HN.out
    split <;> omega
  rw [hif]
  have HN2 := Lib.hid hn
  have n0 : (n : Int) ≤ 1000 := by omega
  have HW1 : Hid (MAt W.drew B q) := HM.out
  have HF1 : Hid (Fr (fun k => k = B) W W.drew) := Fr.drew _ _
  clear hif hn c5 c0
  generalize W.drew = W1 at HW1 HF1 ⊢
  go_wp2
  go_loopw [15] (fun vi wr => ∃ (i : Nat) (q' : MQ), vi = .int .i64 i ∧ Hid (i ≤ n ∧ MAt wr B q' ∧ LI q' L ∧ q'.cf = q.cf ∧ q'.told = q.told + i ∧ Fr (fun k => k = B) W wr)) (fun vi _ => n - (intOf vi).toNat)
  case atStart => exact ⟨0, q, rfl, Nat.zero_le _, HW1.out, HL.out, rfl, rfl, HF1.out⟩
  case round =>
    obtain ⟨i, q', rfl, HR⟩ := hrel
    have i0 : (0 : Int) ≤ i := by omega
    by_cases hi : i < n
    · have i1 : (i : Int) < n := by omega
      have HI := Lib.hid hi
      have HS := Lib.hid (step_any HR.out.2.1 HR.out.2.2.1 (by have := HR.out.2.2.2.2.1; have := HN.out; have := HN2.out; omega))
      clear hi
      go_wp2_with (go_at_call 172; refine HS.out.mono ?_; rintro e W2 ⟨⟨v2, rfl⟩, m2, f2⟩; have M2 := Lib.hid m2; have F2 := Lib.hid f2; clear m2 f2)
      go_roundw
      case rel => exact ⟨i + 1, stepQ q', rfl, HI.out, M2.out, HR.out.2.2.1.step (by have := HR.out.2.2.2.2.1; have := HN.out; have := HN2.out; have := HI.out; omega), HR.out.2.2.2.1, by show q'.told + 1 = _; have := HR.out.2.2.2.2.1; omega, HR.out.2.2.2.2.2.trans F2.out⟩
      case measure =>
        have := HI.out
        show n - (intOf (Value.int .i64 ((i : Int) + 1))).toNat < n - (intOf (Value.int .i64 (i : Int))).toNat
        simp only [intOf]
        omega
    · have hlt : ¬ (i : Int) < n := by omega
      have HE : Hid (i = n) := by have := HR.out.1; show _ = _; omega
      have f5 := HR.out.2.1.frozen 24035
      have c5 : wr.cell? ⟨B, 24035, none⟩ = some (.int .i64 (q'.told : Int)) := HR.out.2.1.told
      clear hi
      go_wp2
      go_end0
      obtain ⟨_, hm, hl, hc, ht, hf⟩ := HR.out
      have hw : q'.win = q.win := congrArg CF.win hc
      refine ⟨⟨_, rfl⟩, ⟨_, hm.setTold now, ?_, hc, rfl⟩, hf.trans (Fr.set _ _ _ _ rfl)⟩
      by_cases hd : now - q.told ≤ q.win
      · have e : q'.told = now := by have := HE.out; have := HN2.out; have := HN.out; omega
        exact hl.same (by rw [← e])
      · exact hl.jump (T0 := q.told) (fun c hc => (HL.out.tm c hc).1) (by have := HE.out; have := HN2.out; omega) (by have := HE.out; have := HN2.out; have := HN.out; omega) HN.out.2
end Go.Proofs.YtjaaljcdaamcjaaGreat.Pa
