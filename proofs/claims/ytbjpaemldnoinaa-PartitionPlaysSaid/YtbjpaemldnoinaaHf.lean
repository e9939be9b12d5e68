/- The reference's Charge. -/
import Derived.Test.YtbjpaemldnoinaaHe
import Derived.Deep.AppendLies
import Derived.Deep.DeepMust
namespace Go.Proofs.Ytbjpaemldnoinaa
open Go.RowKit
set_option linter.unusedVariables false

/-- What the reference changes: its own block, the block of its charges, and newer ones. -/
def FPm (G : Nat) (W : World) (k : Nat) : Prop := k = G ∨ ∃ n c, W.cell? ⟨G, 3, none⟩ = some (.slice (some ⟨k, 0, none⟩) n c)
def RC (v : Value) (lo G w p : Nat) (P : List (Int × Int)) (T' : Nat) (L' : List Ch) (W : World) (e : Ending) (w' : World) : Prop := e = .returned v ∧ RM lo G w p P T' L' w' ∧ Fr (FPm G W) W w'
theorem RR.rc {v : Value} {lo G w p : Nat} {P : List (Int × Int)} {T' : Nat} {L' : List Ch} {W : World} {e : Ending} {w' : World} (h : RR v lo G w p P T' L' W e w') : RC v lo G w p P T' L' W e w' := ⟨h.1, h.2.1, h.2.2.mono fun _ _ e => .inl e⟩
theorem RA.fp {W : World} {lo G pb cp w p T : Nat} {v : Value} {P : List (Int × Int)} {L : List Ch} (h : RA lo G pb cp v w p P T L W) {k : Nat} (e : v.ownBlock = some k) : ∃ n c, W.cell? ⟨G, 3, none⟩ = some (.slice (some ⟨k, 0, none⟩) n c) := by
  have hc : W.cell? ⟨G, 3, none⟩ = some v := h.row.cell 3
  rcases h.own.2 with ⟨rfl, h0⟩ | ⟨g, cap, cur, rfl, _⟩
  · cases e
  · injection e with e
    subst e
    exact ⟨_, _, hc⟩
def nowN (L : List Ch) (n : Nat) : Nat := L.countP fun c => c.t == n
theorem now_take (L : List Ch) (n : Nat) {i : Nat} {x : Ch} (h : L[i]? = some x) : nowN (L.take (i + 1)) n = nowN (L.take i) n + (if x.t = n then 1 else 0) := by
  unfold nowN
  rw [List.take_add_one, h, List.countP_append, Option.toList_some, List.countP_cons, List.countP_nil, Nat.zero_add]
  simp
theorem nowN_pos {L : List Ch} {n : Nat} (h : 0 < nowN L n) : ∃ c ∈ L, c.t = n := by
  obtain ⟨c, hc, h2⟩ := List.countP_pos_iff.1 h
  exact ⟨c, hc, by simpa using h2⟩
/-- What an append to the meter's charges leaves. -/
theorem app_keepC {W3 w1 : World} {lo G pb cp w p n : Nat} {v : Value} {P : List (Int × Int)} {L : List Ch} {x : Ch} {gg cap' : Nat} {o : Obj} (h : RA lo G pb cp v w p P n L W3)
    (hown : w1.ownsRow lo 128 3 (.slice (some ⟨gg, 0, none⟩) (L.length + 1) cap') (L.length + 1) (encC L ++ [.int .i64 (x.t : Int), .int .i64 (x.p : Int), .bool x.c])) (hg : (W3.alloc o).grownBy w1 v.ownBlock) (hat : v.ownBlock = some gg ∨ gg = W3.heap.size + 1) :
    RA lo G pb cp (.slice (some ⟨gg, 0, none⟩) (L.length + 1) cap') w p P n (L ++ [x]) (w1.setCell ⟨G, 3, none⟩ (.slice (some ⟨gg, 0, none⟩) (L.length + 1) cap')) ∧ Fr (fun k => k = G ∨ v.ownBlock = some k) W3 (w1.setCell ⟨G, 3, none⟩ (.slice (some ⟨gg, 0, none⟩) (L.length + 1) cap')) ∧ RowAt w1 G 106 (rcel w p pb P.length cp v n) := by
  have hf : Fr (fun k => v.ownBlock = some k) W3 w1 := (Fr.alloc _ _ _).trans (Fr.grown hg fun k e => e)
  have hG := h.row.lt
  have hP := h.parts.1
  have n1 : gg ≠ G := by
    rcases hat with e | e
    · intro e2; exact h.nv (by rw [e, e2])
    · omega
  have n2 : gg ≠ pb := by
    rcases hat with e | e
    · intro e2; exact h.nvp (by rw [e, e2])
    · omega
  have r1 := h.row.fr hf h.nv
  have hs : Fr (fun k => k = G) w1 (w1.setCell ⟨G, 3, none⟩ (.slice (some ⟨gg, 0, none⟩) (L.length + 1) cap')) := Fr.set _ _ _ _ rfl
  refine ⟨⟨r1.set 3 _, partsAt_fr (partsAt_fr h.parts hf h.nvp) hs h.ne, ?_, h.hlo, h.hlop, h.ne, fun e => ?_, fun e => ?_, h.ok⟩, (hf.mono fun k _ e => .inr e).trans (hs.mono fun k _ e => .inl e), r1⟩
  · rw [encC_app, List.length_append]
    exact own_fr4 hown hs fun k e e2 => by injection e with e; exact n1 (e.trans e2)
  · injection e with e; exact n1 e
  · injection e with e; exact n2 e

set_option maxRecDepth 100000 in
set_option maxHeartbeats 4000000 in
theorem rcharge_any {W : World} {lo G w p T : Nat} {P : List (Int × Int)} {L : List Ch} (h : RM lo G w p P T L W) (hl : L.length ≤ 1000) (htm : ∀ c ∈ L, c.t ≤ T) (now k : Int) (cr : Bool) : Calls Try.prog 58 #[.pointer (some ⟨G, 0, none⟩), .int .i64 now, .int .i64 k, .bool cr] W (RC (.int .i64 (chV (cfP w p P) T L now k)) lo G w p P (tiV (cfP w p P) T now [k]) (chL (cfP w p P) T L now k cr) W) := by
  obtain ⟨pb, cp, v, h⟩ := h
  have HH := Lib.hid h
  have HL := Lib.hid hl
  rcases er_cases (C := cfP w p P) (T := T) (now := now) (p := k) with ⟨z, hz, h0, ht⟩ | ⟨n, k, rfl, rfl, hz, ht, h1, h2, h3⟩
  · have HV : Hid (chV (cfP w p P) T L now k = z) := by show _ = _; rw [chV, hz, if_neg h0]
    have HV2 : Hid (chL (cfP w p P) T L now k cr = L) := by show _ = _; rw [chL, HV.out, if_neg h0]
    rw [HV2.out, HV.out, ht]
    have HA := Lib.hid (fun t => rask1 h now k z hz t)
    have hz0 : (z != 0) = true := by simpa using h0
    clear h hl hz h0 ht htm
    go_enter Try.func58, Try.ntmps58
    go_wp2_with (go_at_call 88; refine (HA.out _).mono ?_; rintro e W2 ⟨rfl, f2⟩; have F2 := Lib.hid f2; clear f2)
    go_ret
    exact ⟨rfl, ⟨pb, cp, v, HH.out.rest F2.out⟩, F2.out.mono fun _ _ e => e.elim⟩
  · have HV : Hid (chV (cfP w p P) T L n k = if nowN L n < p then 0 else 18) := by show _ = _; rw [chV, if_pos hz]; rfl
    rw [ht]
    have HA := Lib.hid (fun t => rask1 h n k 0 hz t)
    have HTM := Lib.hid htm
    have HN1 := Lib.hid h1
    have l1 : (L.length : Int) ≤ 1000 := by omega
    have p1 : (1 : Int) ≤ p := by have := (cfg_ok h.ok).2.1; omega
    have p8 : (p : Int) ≤ 8 := by have := (cfg_ok h.ok).2.1; omega
    clear h hl hz h1 h2 h3 ht htm
    obtain ⟨av, cv, hv⟩ := own_shape4 HH.out.own
    have HVV := Lib.hid hv
    have HC : Hid (∀ W2, Fr (fun _ => False) W W2 → W2.cell? ⟨G, 1, none⟩ = some (.int .i64 (p : Int)) ∧ W2.cell? ⟨G, 3, none⟩ = some (.slice av L.length cv)) := fun W2 f => ⟨(HH.out.row.fr f id).cell 1, by rw [← HVV.out]; exact (HH.out.row.fr f id).cell 3⟩
    have HG : Hid (∀ W2 i, Fr (fun _ => False) W W2 → i < L.length → ∃ g x, av = some ⟨g, 0, none⟩ ∧ L[i]? = some x ∧ W2.cell? ⟨g, i * 3, none⟩ = some (.int .i64 (x.t : Int))) := fun W2 i f hi => by
      obtain ⟨g, cap, e1, _, _, e4, _⟩ := own_someC (own_fr4 HH.out.own f (fun _ _ => id)) (by omega)
      rw [HVV.out] at e1
      injection e1 with e1 e2
      have hx : L[i]? = some L[i] := List.getElem?_eq_getElem hi
      exact ⟨g, _, e1, hx, (e4 i _ hx).1⟩
    clear hv
    obtain ⟨zz, hzz⟩ : ∃ zz, chV (cfP w p P) T L n k = zz := ⟨_, rfl⟩
    obtain ⟨LL, hLL⟩ : ∃ LL, chL (cfP w p P) T L n k cr = LL := ⟨_, rfl⟩
    have HLL : Hid (LL = if zz = 0 then L ++ [⟨n, k, cr⟩] else L) := by show _ = _; rw [← hLL, ← hzz, chL]; rfl
    rw [hzz] at HV
    rw [hLL, hzz]
    clear hzz hLL
    go_enter Try.func58, Try.ntmps58
    go_upto_region 5 with (go_at_call 88; refine (HA.out _).mono ?_; rintro e W2 ⟨rfl, f2⟩; have F2 := Lib.hid f2; clear f2)
    go_wp2
    go_loopw [10, 11] (fun vn vi wr => ∃ i : Nat, vi = .int .i64 i ∧ vn = .int .i64 (nowN (L.take i) n : Nat) ∧ Hid (i ≤ L.length ∧ Fr (fun _ => False) W wr)) (fun vn vi _ => L.length - (intOf vi).toNat)
    case atStart => exact ⟨0, rfl, rfl, Nat.zero_le _, F2.out⟩
    case round =>
      obtain ⟨i, rfl, rfl, HR⟩ := hrel
      obtain ⟨c1, c3⟩ := HC.out _ HR.out.2
      have i0 : (0 : Int) ≤ i := by omega
      have HQ : Hid (nowN (L.take i) n ≤ i) := Nat.le_trans List.countP_le_length (by rw [List.length_take]; omega)
      have q1 : ((nowN (L.take i) n : Nat) : Int) ≤ i := by have := HQ.out; omega
      by_cases hi : i < L.length
      · obtain ⟨g, x, rfl, hx, e0⟩ := HG.out _ i HR.out.2 hi
        have i1 : (i : Int) < L.length := by omega
        have HI := Lib.hid hi
        have HT := Lib.hid (now_take L n hx)
        have HMS : Hid (L.length - (intOf (Value.int IntKind.i64 ((i : Int) + 1))).toNat < L.length - (intOf (Value.int IntKind.i64 (i : Int))).toNat) := by
          show _ < _
          simp only [intOf]
          omega
        generalize nowN (L.take i) n = m at HT q1 ⊢
        clear hi hx HQ
        have m0 : (0 : Int) ≤ m := by omega
        obtain ⟨xt, xp, xc⟩ := x
        have e0' : wr.cell? ⟨g, i * 3, none⟩ = some (.int .i64 (xt : Int)) := e0
        clear e0
        by_cases b1 : (xt : Int) = n
        · have g1 : ((xt : Int) == n) = true := by simpa using b1
          have B1 : Hid (xt = n) := by show _ = _; omega
          clear b1
          go_wp2
          go_roundw
          case rel => exact ⟨i + 1, by push_cast; rfl, by rw [HT.out, if_pos B1.out]; push_cast; rfl, HI.out, HR.out.2⟩
          case measure => exact HMS.out
        · have g1 : ((xt : Int) == n) = false := by simpa using b1
          have B1 : Hid (xt ≠ n) := by show _ ≠ _; omega
          clear b1
          go_wp2
          go_roundw
          case rel => exact ⟨i + 1, by push_cast; rfl, by rw [HT.out, if_neg B1.out, Nat.add_zero], HI.out, HR.out.2⟩
          case measure => exact HMS.out
      · have hlt : ¬ (i : Int) < L.length := by omega
        have HE : Hid (nowN (L.take i) n = nowN L n) := by show _ = _; rw [List.take_of_length_le (by omega)]
        rw [HE.out] at q1 ⊢
        clear hi HE
        by_cases hc : ((nowN L n : Nat) : Int) < p
        · have HZ : Hid (zz = 0) := by show _ = _; rw [HV.out, if_pos (by omega)]
          have HM := Lib.hid (HH.out.rest HR.out.2)
          have c4 : wr.cell? ⟨G, 4, none⟩ = some (.int .i64 (T : Int)) := HM.out.row.cell 4
          have f4 : wr.frozen? ⟨G, 4, none⟩ = false := HM.out.row.frozen 4
          go_upto_region 13 with (fail)
          have HT := Lib.hid (HM.out.tell n)
          have HF : Hid (Fr (fun k => k = G) W (wr.setCell ⟨G, 4, none⟩ (.int .i64 (n : Int)))) := (HR.out.2.mono fun _ _ e => e.elim).trans (Fr.set _ _ _ _ rfl)
          clear c1 c3 c4 f4 HM
          generalize wr.setCell _ _ = W3 at HT HF ⊢
          have c3 : W3.cell? ⟨G, 3, none⟩ = some (.slice av L.length cv) := by rw [← HVV.out]; exact HT.out.row.cell 3
          have f3 : W3.frozen? ⟨G, 3, none⟩ = false := HT.out.row.frozen 3
          obtain ⟨i0', hi0, hz0, hz1, hz2⟩ := info_parts info_rch
          have HI0 := Lib.hid hi0
          have HZ0 := Lib.hid hz0
          have HZ1 := Lib.hid hz1
          have HZ2 := Lib.hid hz2
          clear hi0 hz0 hz1 hz2
          have HO3 : Hid (W3.ownsRow lo 128 3 (.slice av L.length cv) L.length (encC L)) := by show World.ownsRow _ _ _ _ _ _ _; rw [← HVV.out]; exact HT.out.own
          have HONE : Hid (∀ u ∈ [Value.int .i64 (n : Int), Value.int .i64 (k : Int), Value.bool cr], u.oneCell' = true) := by show ∀ u ∈ _, _; simp [Value.oneCell']
          have HMAX : Hid (L.length + 1 ≤ maxLen) := by have := HL.out; show _ ≤ _; unfold maxLen; omega
          have HBYT : Hid ((L.length + 1) * 24 ≤ 140737488355328) := by have := HL.out; show _ ≤ _; omega
          have HSZ : Hid ((W3.alloc (.cells #[.int .i64 (n : Int), .int .i64 (k : Int), .bool cr] 128)).heap.size = W3.heap.size + 1) := by show (W3.alloc _).heap.size = _; simp
          have HLO : Hid (lo ≤ (W3.alloc (.cells #[.int .i64 (n : Int), .int .i64 (k : Int), .bool cr] 128)).heap.size) := by have := HT.out.row.lt; have := HH.out.hlo; rw [HSZ.out]; show _ ≤ _; omega
          have HNW : Hid (∀ j u, [Value.int .i64 (n : Int), Value.int .i64 (k : Int), Value.bool cr][j]? = some u → (W3.alloc (.cells #[.int .i64 (n : Int), .int .i64 (k : Int), .bool cr] 128)).cell? ((⟨W3.heap.size, 0, none⟩ : Addr).add j) = some u) := fun j u hj => by
            rw [Addr.add_mid, Nat.zero_add, (RowAt.new W3 128 #[.int .i64 (n : Int), .int .i64 (k : Int), .bool cr]).cell j]
            simpa using hj
          go_upto_region 14 with (at_builtin; go_must (refine wpList_append_lies _ rfl (.tmp 56) (.tmp 61) 104 rfl lo 128 i0' (.agg #[.int .i64 0, .int .i64 0, .bool false]) 3 24 Try.underlying104 HI0.out HZ0.out HZ1.out HZ2.out rfl (by decide) (.slice av L.length cv) L.length (encC L) rfl (HO3.out.alloc _) ⟨W3.heap.size, 0, none⟩ 1 1 [.int .i64 (n : Int), .int .i64 (k : Int), .bool cr] rfl rfl HNW.out HONE.out (by decide) HMAX.out HBYT.out HLO.out (W3.heap.size + 1) HSZ.out ?_); intro gg cap' w1 hown1 hgrow hat hlt2; have HAP := Lib.hid (app_keepC (x := ⟨n, k, cr⟩) HT.out hown1 (by rw [HVV.out]; exact hgrow) (by rw [HVV.out]; exact hat)); clear hown1 hgrow hat hlt2 c3 f3; have c5 : w1.cell? ⟨G, 3, none⟩ = some (.slice av L.length cv) := (by rw [← HVV.out]; exact HAP.out.2.2.cell 3); have f5 : w1.frozen? ⟨G, 3, none⟩ = false := HAP.out.2.2.frozen 3)
          go_wp2
          go_ret
          refine ⟨by rw [HZ.out] <;> rfl, ⟨pb, cp, _, by rw [HLL.out, if_pos HZ.out]; exact HAP.out.1⟩, (HF.out.mono fun _ _ e => .inl e).trans (HAP.out.2.1.mono fun k _ e => ?_)⟩
          rcases e with e | e
          · exact .inl e
          · exact .inr (HH.out.fp e)
        · have HZ : Hid (zz = 18) := by show _ = _; rw [HV.out, if_neg (by omega)]
          have HTN : Hid (T = n) := by
            have h0 : 0 < nowN L n := by omega
            obtain ⟨c, hc1, hc2⟩ := nowN_pos h0
            have := HTM.out c hc1
            have := HN1.out
            show _ = _
            omega
          go_wp2
          go_ret
          exact ⟨by rw [HZ.out] <;> rfl, ⟨pb, cp, v, by rw [HLL.out, if_neg (by rw [HZ.out]; simp), ← HTN.out]; exact HH.out.rest HR.out.2⟩, HR.out.2.mono fun _ _ e => e.elim⟩
end Go.Proofs.Ytbjpaemldnoinaa
