/- Timers: the first example of the chapter. -/
import Derived.Test.YtkjokmfhmppinaaOv
namespace Go.Proofs.Ytkjokmfhmppinaa
open Go.RowKit Go.Maps Go.Shelf
set_option linter.unusedVariables false

/-- Two lists in one order with the same members are one. -/
theorem lex_unique : ∀ {a b : List (Int × Tm)}, a.Pairwise (fun p q => p.2.f < q.2.f ∨ p.2.f = q.2.f ∧ p.1 < q.1) → b.Pairwise (fun p q => p.2.f < q.2.f ∨ p.2.f = q.2.f ∧ p.1 < q.1) → (∀ p, p ∈ a ↔ p ∈ b) → a = b
  | [], [], _, _, _ => rfl
  | [], q :: s, _, _, h => by have := (h q).2 (by simp); simp at this
  | p :: r, [], _, _, h => by have := (h p).1 (by simp); simp at this
  | p :: r, q :: s, ha, hb, h => by
    obtain ⟨a1, a2⟩ := List.pairwise_cons.1 ha
    obtain ⟨b1, b2⟩ := List.pairwise_cons.1 hb
    have e : p = q := by
      rcases List.mem_cons.1 ((h p).1 (by simp)) with e | hp
      · exact e
      · rcases List.mem_cons.1 ((h q).2 (by simp)) with e | hq
        · exact e.symm
        · have h1 := b1 p hp; have h2 := a1 q hq; omega
    subst e
    rw [lex_unique a2 b2 (fun x => ⟨fun hx => by
      rcases List.mem_cons.1 ((h x).1 (by simp [hx])) with e | hx'
      · have := a1 x hx; rw [e] at this; omega
      · exact hx', fun hx => by
      rcases List.mem_cons.1 ((h x).2 (by simp [hx])) with e | hx'
      · have := b1 x hx; rw [e] at this; omega
      · exact hx'⟩)]
theorem fa_unique {l : TS} {now : Int} {a b : List (Int × Tm)} (ha : FA l now a) (hb : FA l now b) : a = b :=
  lex_unique ha.1 hb.1 fun p => by rw [show p = (p.1, p.2) from rfl, ha.2, hb.2]
theorem own_cells {W : World} {lo n s g cap : Nat} {t : TypeId} {xs : List Value} (h : W.ownsRow lo t s (.slice (some ⟨g, 0, none⟩) n cap) n xs) {i : Nat} {u : Value} (hi : xs[i]? = some u) : W.cell? ⟨g, i, none⟩ = some u := by
  rcases h.2 with ⟨h1, _⟩ | ⟨g', cap', cur, h1, _, h3, _, _, h6, h7⟩
  · cases h1
  · injection h1 with h1 _ _
    injection h1 with h1
    injection h1 with h1 _ _
    subst h1
    rw [cell_of_row W g i cur t (0, 0) h3]
    have e : (cur.toList.take (n * s))[i]? = some u := by rw [h7]; exact hi
    rw [List.getElem?_take] at e
    split at e
    · rw [Array.getElem?_toList] at e; exact e
    · cases e
theorem pulse_ok (W : World) : Calls Try.prog 25 #[] W fun e w' => e = .returned (evV 1 1 10 0 0) ∧ Fr No W w' := by
  have HR := Lib.hid (RowAt.new W 29 #[.int .i64 1, .int .i64 1, .int .i64 10, .int .i64 0, .int .i64 0])
  have HF : Hid (Fr No W (W.alloc (.cells #[.int .i64 1, .int .i64 1, .int .i64 10, .int .i64 0, .int .i64 0] 29))) := Fr.alloc _ _ _
  go_enter Try.func25, Try.ntmps25
  go_wp2_with ((with_reducible refine st_gate ?_); refine wpList_store_row rfl 29 (Operand.tmp 0) (Operand.tmp 1) rfl W.heap.size #[.int .i64 1, .int .i64 1, .int .i64 10, .int .i64 0, .int .i64 0] rfl rfl _ #[.int .i64 0, .int .i64 0, .int .i64 0, .int .i64 0, .int .i64 0] (RowAt.new W _ _) size_event rfl (by simp [Value.oneCell']) ?_; rw [World.setRow_alloc_new])
  refine bodyPost_ret (v := evV 1 1 10 0 0) (results_cell_row rfl _ _ W.heap.size 29 _ (0, 0) _ rfl HR.out Try.underlying29 rfl size_event) rfl ⟨rfl, HF.out⟩
/-- The timers of the example. -/
def awF (i : Nat) : Int := if i = 0 then 100 else if i = 1 then 120 else 130
def awT (i : Nat) : Int := if i = 0 then 50 else 0
def awL (i : Nat) : TS := (List.range i).map fun (j : Nat) => ((j : Int), (⟨1, 1, 1, 10, 0, 0, awF j, 0, awT j⟩ : Tm))
theorem aw_lf {i : Nat} (h : i < 3) : lf (awL i) = i := by
  match i, h with
  | 0, _ => rfl
  | 1, _ => rfl
  | 2, _ => rfl
theorem aw_get {i : Nat} (h : i < 3) : get (ins (i : Int) ⟨1, 1, 1, 10, 0, 0, 0, 0, 0⟩ (awL i)) i = some ⟨1, 1, 1, 10, 0, 0, 0, 0, 0⟩ := by
  match i, h with
  | 0, _ => rfl
  | 1, _ => rfl
  | 2, _ => rfl
theorem aw_step {i : Nat} (h : i < 3) : ins (i : Int) (Tm.sp ⟨1, 1, 1, 10, 0, 0, 0, 0, 0⟩ (awF i) 0 (awT i)) (ins (i : Int) ⟨1, 1, 1, 10, 0, 0, 0, 0, 0⟩ (awL i)) = awL (i + 1) := by
  match i, h with
  | 0, _ => rfl
  | 1, _ => rfl
  | 2, _ => rfl
theorem aw_ok {i : Nat} : spOk (awF i) 0 (awT i) = true := by
  unfold awF awT spOk isT
  split
  · decide
  · split <;> decide
theorem aw_sp : SpI (awL 3) := by
  intro p hp
  simp [awL] at hp
  obtain ⟨j, hj, rfl⟩ := hp
  exact aw_ok
theorem aw_nx : nx (awL 3) = some 120 := by decide
def awFS : List (Int × Tm) := [(0, ⟨1, 1, 1, 10, 0, 0, 100, 0, 50⟩), (1, ⟨1, 1, 1, 10, 0, 0, 120, 0, 0⟩)]
theorem aw_fa : FA (awL 3) 120 awFS := by
  refine ⟨by unfold awFS; simp, fun x t => ?_⟩
  show _ ↔ get [(0, ⟨1, 1, 1, 10, 0, 0, 100, 0, 50⟩), (1, ⟨1, 1, 1, 10, 0, 0, 120, 0, 0⟩), (2, ⟨1, 1, 1, 10, 0, 0, 130, 0, 0⟩)] x = some t ∧ _
  rw [get_cons, get_cons, get_cons, get_nil]
  unfold awFS
  simp only [List.mem_cons, List.not_mem_nil, or_false, Prod.mk.injEq]
  constructor
  · rintro (⟨rfl, rfl⟩ | ⟨rfl, rfl⟩) <;> simp
  · rintro ⟨h1, h2, h3⟩
    split at h1
    · cases h1; left; exact ⟨by omega, rfl⟩
    · split at h1
      · cases h1; right; exact ⟨by omega, rfl⟩
      · split at h1
        · cases h1; simp at h3
        · cases h1
theorem aw_fire : fireL 120 awFS (awL 3) = [(0, ⟨1, 1, 1, 10, 0, 0, 0, 0, 50⟩), (1, ⟨1, 1, 1, 10, 0, 0, 0, 0, 0⟩), (2, ⟨1, 1, 1, 10, 0, 0, 130, 0, 0⟩)] := by decide
theorem aw_sp2 : SpI (fireL 120 awFS (awL 3)) := by
  rw [aw_fire]
  intro p hp
  simp only [List.mem_cons, List.not_mem_nil, or_false] at hp
  rcases hp with rfl | rfl | rfl <;> decide
theorem aw_nx2 : nx (fireL 120 awFS (awL 3)) = some 130 := by rw [aw_fire]; decide
def awRow : Array Value := #[.int .i64 100, .int .i64 0, .int .i64 50, .int .i64 120, .int .i64 0, .int .i64 0, .int .i64 130, .int .i64 0, .int .i64 0]
theorem aw_range {W : World} {G : Nat} (h : RowAt W G 31 awRow) {i : Nat} (hi : i < 3) : W.rangeAt G (i * 3) [Value.int .i64 (awF i), .int .i64 0, .int .i64 (awT i)] := fun j v hv => by
  rw [RowAt.cell h]
  match i, hi, j, hv with
  | 0, _, 0, hv => cases hv; rfl
  | 0, _, 1, hv => cases hv; rfl
  | 0, _, 2, hv => cases hv; rfl
  | 1, _, 0, hv => cases hv; rfl
  | 1, _, 1, hv => cases hv; rfl
  | 1, _, 2, hv => cases hv; rfl
  | 2, _, 0, hv => cases hv; rfl
  | 2, _, 1, hv => cases hv; rfl
  | 2, _, 2, hv => cases hv; rfl
set_option maxRecDepth 100000 in
set_option maxHeartbeats 8000000 in
theorem awake_any (W : World) : Calls Try.prog 9 #[] W fun e w' => e = .returned (.bool true) ∧ Fr No W w' := by
  have HN := Lib.hid (tnew_ok W)
  have HBW : Hid (∀ B b, W.heap.size + 1 = B → W.heap.size = b → W.heap.size ≤ B ∧ W.heap.size ≤ b) := fun B b h1 h2 => by omega
  generalize hB : W.heap.size + 1 = B at HN
  generalize hb : W.heap.size = b at HN
  have HB := Lib.hid hb
  replace HBW := Lib.hid (HBW.out B b hB hb)
  clear hB hb
  go_enter Try.func9, Try.ntmps9
  go_upto_region 2 with (go_at_call 10; refine HN.out.mono ?_; rintro e w1 ⟨rfl, q1, f1⟩; have HQ1 := Lib.hid q1; have F1 := Lib.hid f1; clear q1 f1)
  have HG := Lib.hid (RowAt.new w1 31 awRow)
  have HF2 : Hid (Fr No W (w1.alloc (.cells awRow 31))) := F1.out.trans (Fr.alloc _ _ _)
  have HQ2 : Hid (TQ (w1.alloc (.cells awRow 31)) B b [] 0) := HQ1.out.no (Fr.alloc _ _ _)
  have HLT : Hid (B < w1.heap.size ∧ b < w1.heap.size) := ⟨HQ1.out.row.lt, HQ1.out.map.lt⟩
  unfold awRow at HG HF2 HQ2
  go_wp2
  generalize World.alloc w1 _ = W2 at HG HF2 HQ2 ⊢
  generalize w1.heap.size = G at HG HLT ⊢
  have HLG := Lib.hid HG.out.lt
  clear HQ1 F1 HN
  go_loopw [20] (fun vi wr => ∃ i : Nat, vi = .int .i64 i ∧ Hid (i ≤ 3 ∧ TQ wr B b (awL i) 0 ∧ RowAt wr G 31 awRow ∧ Fr No W wr)) (fun vi _ => 3 - (intOf vi).toNat)
  case atStart => exact ⟨0, rfl, by omega, HQ2.out, HG.out, HF2.out⟩
  case round =>
    obtain ⟨i, rfl, HI⟩ := hrel
    have i0 : (0 : Int) ≤ i := by omega
    by_cases hi : i < 3
    · have i1 : (i : Int) < 3 := by omega
      have HMS : Hid (3 - (intOf (Value.int IntKind.i64 ((i : Int) + 1))).toNat < 3 - (intOf (Value.int IntKind.i64 (i : Int))).toNat) := by
        show _ < _
        simp only [intOf]
        omega
      have HI3 := Lib.hid hi
      have HRA := Lib.hid (aw_range HI.out.2.2.1 hi)
      have HCR := Lib.hid (fun w f => create_ok (W := w) (HI.out.2.1.no f) 1 1 1 10 0 0 (by decide) (by simp [awL]; omega))
      rw [aw_lf hi] at HCR
      have HAG := Lib.hid (aw_get hi)
      have HSP : Hid (∀ w, TQ w B b (ins (i : Int) ⟨1, 1, 1, 10, 0, 0, 0, 0, 0⟩ (awL i)) 0 → Calls Try.prog 24 #[.pointer (some ⟨B, 0, none⟩), .int .i64 (i : Int), .agg #[.int .i64 (awF i), .int .i64 0, .int .i64 (awT i)]] w fun e w' => e = .returned (.tuple #[.agg #[.int .i64 0, .int .i64 0, .int .i64 0], .int .i64 0]) ∧ TQ w' B b (awL (i + 1)) 0 ∧ Fr (fun k => k = b) w w') := fun w q => by
        have := set_ok q (isW_nat (n := i) (by omega)) (aw_get hi) (awF i) 0 (awT i) aw_ok
        rw [aw_step hi] at this
        exact this
      unfold evV at HCR
      clear hi
      generalize awF i = f at HRA HSP
      generalize awT i = t at HRA HSP
      have HX0 : Hid (∀ w2, Fr (fun k => k = b) (wr.alloc (.cells #[.int .i64 f, .int .i64 0, .int .i64 t] 31)) w2 → RowAt w2 wr.heap.size 31 #[.int .i64 f, .int .i64 0, .int .i64 t]) := fun w2 g => (RowAt.new wr _ _).fr g (by have := HI.out.2.1.map.lt; omega)
      go_wp2_with (first
        | ((with_reducible refine ld_gate ?_); refine wpList_load_mid rfl 31 (Operand.tmp 23) rfl G (i * 3) rfl [_, _, _] _ HRA.out Try.underlying31 rfl size_spec ?_; go_frame)
        | ((with_reducible refine st_gate ?_); refine wpList_store_row rfl 31 (Operand.tmp 3) (Operand.tmp 24) rfl wr.heap.size #[.int .i64 f, .int .i64 0, .int .i64 t] rfl rfl _ _ (RowAt.new wr _ _) size_spec rfl (by simp [Value.oneCell']) ?_; rw [World.setRow_alloc_new])
        | (go_at_call 25; refine (pulse_ok _).mono ?_; unfold evV; rintro e w3 ⟨rfl, f3⟩; have F3 := Lib.hid f3; clear f3)
        | (go_at_call 18; refine (HCR.out _ ((Fr.alloc No _ _).trans F3.out)).mono ?_; rintro e w4 ⟨rfl, q4, f4⟩; have HQ4 := Lib.hid q4; have F4 : Hid (Fr (fun k => k = b) (wr.alloc (.cells #[.int .i64 f, .int .i64 0, .int .i64 t] 31)) w4) := F3.out.any.trans f4; clear q4 f4)
        | ((with_reducible refine ld_gate ?_); refine wpList_load_mid rfl 31 (Operand.tmp 3) rfl wr.heap.size 0 rfl [_, _, _] _ (HX0.out _ F4.out).range Try.underlying31 rfl size_spec ?_; go_frame)
        | (go_at_call 24; refine (HSP.out _ HQ4.out).mono ?_; rintro e w5 ⟨rfl, q5, f5⟩; have HQ5 := Lib.hid q5; have F5 := Lib.hid f5; clear q5 f5)
        | ((with_reducible refine st_gate ?_); refine wpList_store_row rfl 31 (Operand.tmp 6) (Operand.tmp 36) rfl w5.heap.size sz rfl rfl _ sz (RowAt.new w5 _ _) size_spec rfl (by simp [Value.oneCell']) ?_; rw [World.setRow_alloc_new]))
      have hfa : Fr (fun k => k = b) wr (w5.alloc (.cells sz 31)) := (((Fr.alloc _ _ _).trans F4.out).trans F5.out).trans (Fr.alloc _ _ _)
      exact ⟨⟨i + 1, by push_cast; rfl, HI3.out, HQ5.out.no (Fr.alloc _ _ _), HI.out.2.2.1.fr hfa (by have := HLT.out; omega), HI.out.2.2.2.over hfa (fun k e => .inr (by rw [e, HB.out]; exact Nat.le_refl _))⟩, HMS.out⟩
    · have he : i = 3 := by have := HI.out.1; omega
      subst he
      have HN1 := Lib.hid (fun w f => next_ok (W := w) (HI.out.2.1.no f) aw_sp)
      have e1 : nxV (awL 3) = 120 := by unfold nxV; rw [aw_nx]; rfl
      have e2 : (nx (awL 3)).isSome = true := by rw [aw_nx]; rfl
      rw [e1, e2] at HN1
      have HEX := Lib.hid (fun w f => expire_fire (W := w) (HI.out.2.1.no f) aw_sp 120 (by decide) (by decide) e2 (by rw [e1]; decide) (fun n hn => sortOK_small (by simp [awL] at hn; omega)))
      have e3 : nxV (fireL 120 awFS (awL 3)) = 130 := by unfold nxV; rw [aw_nx2]; rfl
      have e4 : (nx (fireL 120 awFS (awL 3))).isSome = true := by rw [aw_nx2]; rfl
      have HN2 : Hid (∀ w c, TQ w B b (fireL 120 awFS (awL 3)) c → Calls Try.prog 13 #[.pointer (some ⟨B, 0, none⟩)] w fun e w' => e = .returned (.tuple #[.int .i64 130, .bool true]) ∧ Fr No w w') := fun w c q => by
        have := next_ok q aw_sp2
        rw [e3, e4] at this
        exact this
      clear e1 e2 e3 e4 hi
      go_wp2_with (first
        | (go_at_call 13; refine (HN1.out _ (Fr.refl _ _)).mono ?_; rintro e w3 ⟨rfl, f3⟩; have F3 := Lib.hid f3; clear f3 HN1)
        | (go_at_call 23; refine (HEX.out _ F3.out).mono ?_; rintro e w4 ⟨v, fs, rfl, hfa, hq, hown, hf⟩; obtain rfl := fa_unique hfa aw_fa; obtain ⟨g, cap, rfl⟩ := own_slice hown; have HQ4 := Lib.hid hq; have F4 := Lib.hid hf; have HO4 := Lib.hid hown; clear hfa hq hown hf)
        | (go_at_call 13; refine (HN2.out _ _ HQ4.out).mono ?_; rintro e w5 ⟨rfl, f5⟩; have F5 := Lib.hid f5; clear f5 HN2; have c0 : w5.cell? ⟨g, 0, none⟩ = some (.int .i64 0) := own_cells (own_fr2 HO4.out F5.out (fun _ _ => id)) rfl; have c7 : w5.cell? ⟨g, 7, none⟩ = some (.int .i64 1) := own_cells (own_fr2 HO4.out F5.out (fun _ _ => id)) rfl))
      go_ret
      exact ⟨rfl, (HI.out.2.2.2.over ((F3.out.any.trans F4.out).trans F5.out.any) (fun k e => .inr (by rcases e with rfl | rfl; exact HBW.out.1; exact HBW.out.2)))⟩
end Go.Proofs.Ytkjokmfhmppinaa
