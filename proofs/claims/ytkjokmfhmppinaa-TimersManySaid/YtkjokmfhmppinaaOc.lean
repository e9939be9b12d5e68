/- Timers: isMade, isTime, isArmed, deadline, overruns, behind, checkNew. -/
import Derived.Test.YtkjokmfhmppinaaOb
namespace Go.Proofs.Ytkjokmfhmppinaa
open Go.RowKit Go.Maps
set_option linter.unusedVariables false

abbrev MT : Int := 1099511627776
theorem ismade_nil (W : World) : Calls Try.prog 34 #[.pointer none] W fun e w' => e = .returned (.bool false) ∧ W = w' := by
  go_enter Try.func34, Try.ntmps34
  go_wp2
  go_ret
  exact ⟨rfl, rfl⟩
theorem neq_map (b : Nat) (w : World) : Sem.run Try.prog (binOp BinOp.neq 65 (Value.map (some b)) (Value.map none)) w = Result.ok (Value.bool true) w := by
  first | kernel_rfl | rfl | simp [go_sem]
set_option maxRecDepth 100000 in
theorem ismade_ok {W : World} {B b : Nat} {l : TS} {c : Int} (h : TQ W B b l c) : Calls Try.prog 34 #[.pointer (some ⟨B, 0, none⟩)] W fun e w' => e = .returned (.bool true) ∧ W = w' := by
  have c0 : W.cell? ⟨B, 0, none⟩ = some (.map (some b)) := h.row.cell 0
  clear h
  have hne := neq_map b
  go_enter Try.func34, Try.ntmps34
  go_wp2
  go_ret
  exact ⟨rfl, rfl⟩
def isT (x : Int) : Bool := decide (0 ≤ x) && decide (x ≤ 1099511627776)
theorem isT_iff (x : Int) : isT x = true ↔ 0 ≤ x ∧ x ≤ MT := by simp [isT]
theorem istime_any (x : Int) (W : World) : Calls Try.prog 45 #[.int .i64 x] W fun e w' => e = .returned (.bool (isT x)) ∧ W = w' := by
  by_cases hp : 0 ≤ x
  · have HV : Hid (isT x = decide (x ≤ 1099511627776)) := by show _ = _; simp [isT, hp]
    go_enter Try.func45, Try.ntmps45
    go_wp2
    go_ret
    exact ⟨by rw [HV.out] <;> rfl, rfl⟩
  · have HV : Hid (isT x = false) := by show _ = _; simp [isT, hp]
    have h2 : decide (0 ≤ x) = false := by simpa using hp
    go_enter Try.func45, Try.ntmps45
    go_wp2
    go_ret
    exact ⟨by rw [HV.out] <;> rfl, rfl⟩
def spV (f i t : Int) : Value := .agg #[.int .i64 f, .int .i64 i, .int .i64 t]
theorem size_spec : (Try.prog.info? 31).map (·.size) = some 3 := by kernel_rfl
theorem size_timer : (Try.prog.info? 81).map (·.size) = some 9 := by kernel_rfl
theorem size_event : (Try.prog.info? 29).map (·.size) = some 5 := by kernel_rfl
theorem isarmed_any (f i t : Int) (W : World) : Calls Try.prog 35 #[spV f i t] W fun e w' => e = .returned (.bool (!(f == 0))) ∧ Fr No W w' := by
  have HF : Hid (Fr No W (W.alloc (.cells #[.int .i64 f, .int .i64 i, .int .i64 t] 31))) := Fr.alloc _ _ _
  unfold spV
  go_enter Try.func35, Try.ntmps35
  go_wp2
  go_ret
  exact ⟨by first | rfl | (simp; rfl), HF.out⟩
theorem deadline_any (f i t : Int) (W : World) (h0 : 0 ≤ f) (h1 : f ≤ MT) (h2 : 0 ≤ t) (h3 : t ≤ MT) : Calls Try.prog 36 #[spV f i t] W fun e w' => e = .returned (.int .i64 (f + t)) ∧ Fr No W w' := by
  have HF : Hid (Fr No W (W.alloc (.cells #[.int .i64 f, .int .i64 i, .int .i64 t] 31))) := Fr.alloc _ _ _
  unfold spV
  have hw : IntKind.i64.wrap (f + t) = f + t := IntWalk.i64_in _ (by unfold MT at *; omega)
  go_enter Try.func36, Try.ntmps36
  go_wp2
  go_ret
  exact ⟨rfl, HF.out⟩
/-- How often a timer would have fired once more. -/
def ovr (f i now : Int) : Int := if i = 0 then 0 else (now - f) / i
theorem ovr_nn {f i now : Int} (h : f ≤ now) (hi : 0 ≤ i) : 0 ≤ ovr f i now := by
  unfold ovr
  split
  · exact Int.le_refl _
  · exact Int.ediv_nonneg (by omega) hi
theorem ovr_le {f i now : Int} (h : f ≤ now) (hi : 0 ≤ i) : ovr f i now ≤ now - f := by
  unfold ovr
  split
  · omega
  · exact Int.ediv_le_self _ (by omega)
theorem ovr_mul {f i now : Int} (h : f ≤ now) (hi : 0 ≤ i) : ovr f i now * i ≤ now - f ∧ 0 ≤ ovr f i now * i := by
  refine ⟨?_, Int.mul_nonneg (ovr_nn h hi) hi⟩
  unfold ovr
  split
  · simp; omega
  · exact Int.ediv_mul_le _ (by assumption)
set_option maxHeartbeats 1000000 in
theorem overruns_ok (f i t now : Int) (W : World) (h0 : 0 ≤ f) (h1 : f ≤ now) (h2 : now ≤ MT) (h3 : 0 ≤ i) : Calls Try.prog 47 #[spV f i t, .int .i64 now] W fun e w' => e = .returned (.int .i64 (ovr f i now)) ∧ Fr No W w' := by
  have HF : Hid (Fr No W (W.alloc (.cells #[.int .i64 f, .int .i64 i, .int .i64 t] 31))) := Fr.alloc _ _ _
  unfold spV
  by_cases hi : i = 0
  · subst hi
    go_enter Try.func47, Try.ntmps47
    go_wp2
    go_ret
    exact ⟨by simp [ovr], HF.out⟩
  · have hw : IntKind.i64.wrap (now - f) = now - f := IntWalk.i64_in _ (by unfold MT at *; omega)
    have hn : (i == 0) = false := by simpa using hi
    have hd : wrap64 ((now - f).tdiv i) = ovr f i now := by
      have e : (now - f).tdiv i = ovr f i now := by
        unfold ovr; rw [if_neg hi, Int.tdiv_eq_ediv_of_nonneg (by omega)]
      have a := ovr_nn h1 h3
      have b := ovr_le h1 h3
      rw [e]
      exact IntWalk.wrap64_in (ovr f i now) (by unfold MT at *; omega)
    have HD := Lib.hid hd
    clear hd
    go_enter Try.func47, Try.ntmps47
    go_wp2
    go_ret
    exact ⟨by rw [← HD.out]; rfl, HF.out⟩
/-- First behind the time at which a timer fires. -/
def nxt (f i now : Int) : Int := if i = 0 then 0 else if MT < f + (ovr f i now + 1) * i then 0 else f + (ovr f i now + 1) * i
theorem nxt_ok {f i now : Int} (h0 : 0 ≤ f) (h : f ≤ now) (hm : now ≤ MT) (hi : 0 ≤ i) : 0 ≤ nxt f i now ∧ nxt f i now ≤ MT ∧ (nxt f i now = 0 ∨ now < nxt f i now) := by
  have hm := ovr_mul h hi
  have e : (ovr f i now + 1) * i = ovr f i now * i + i := by rw [Int.add_mul, Int.one_mul]
  have hd : i ≠ 0 → now - f < (ovr f i now + 1) * i := fun hn => by
    have : 0 < i := by omega
    unfold ovr
    rw [if_neg hn]
    exact Int.lt_ediv_add_one_mul_self _ this
  unfold nxt
  split
  · unfold MT; omega
  · rename_i hn
    have := hd hn
    split <;> omega
set_option maxHeartbeats 4000000 in
theorem behind_ok (f i t now : Int) (W : World) (h0 : 0 ≤ f) (h1 : f ≤ now) (h2 : now ≤ MT) (h3 : 0 ≤ i) (h4 : i ≤ MT) : Calls Try.prog 48 #[spV f i t, .int .i64 now] W fun e w' => e = .returned (spV (nxt f i now) i t) ∧ Fr No W w' := by
  have HF : Hid (Fr No W (W.alloc (.cells #[.int .i64 f, .int .i64 i, .int .i64 t] 31))) := Fr.alloc _ _ _
  have HR := Lib.hid (RowAt.new W 31 #[.int .i64 f, .int .i64 i, .int .i64 t])
  have HO := Lib.hid (fun w => overruns_ok f i t now w h0 h1 h2 h3)
  have hm := ovr_mul h1 h3
  have hl := ovr_le h1 h3
  have hv := ovr_nn h1 h3
  have e : (ovr f i now + 1) * i = ovr f i now * i + i := by rw [Int.add_mul, Int.one_mul]
  have w1 : IntKind.i64.wrap (ovr f i now + 1) = ovr f i now + 1 := IntWalk.i64_in _ (by unfold MT at *; omega)
  have w2 : IntKind.i64.wrap ((ovr f i now + 1) * i) = (ovr f i now + 1) * i := IntWalk.i64_in _ (by unfold MT at *; omega)
  have w3 : IntKind.i64.wrap (f + (ovr f i now + 1) * i) = f + (ovr f i now + 1) * i := IntWalk.i64_in _ (by unfold MT at *; omega)
  have v1 : wrap64 (ovr f i now + 1) = ovr f i now + 1 := IntWalk.wrap64_in _ (by unfold MT at *; omega)
  have v2 : wrap64 ((ovr f i now + 1) * i) = (ovr f i now + 1) * i := IntWalk.wrap64_in _ (by unfold MT at *; omega)
  have v3 : wrap64 (f + (ovr f i now + 1) * i) = f + (ovr f i now + 1) * i := IntWalk.wrap64_in _ (by unfold MT at *; omega)
  have HN : Hid (nxt f i now = if i = 0 then 0 else if MT < f + (ovr f i now + 1) * i then 0 else f + (ovr f i now + 1) * i) := rfl
  clear h0 h1 h2 h3 h4 hm hl hv e
  generalize ovr f i now = q at *
  generalize nxt f i now = z at *
  unfold spV at HO ⊢
  go_enter Try.func48, Try.ntmps48
  go_upto_region 1 with (fail)
  have HR1 : Hid (RowAt ((W.alloc (.cells #[.int .i64 f, .int .i64 i, .int .i64 t] 31)).alloc (.cells #[.int .i64 0, .int .i64 0, .int .i64 0] 31)) W.heap.size 31 #[.int .i64 f, .int .i64 i, .int .i64 t]) := HR.out.fr (Fr.alloc No _ _) id
  have HZ := Lib.hid (RowAt.new (W.alloc (.cells #[.int .i64 f, .int .i64 i, .int .i64 t] 31)) 31 #[.int .i64 0, .int .i64 0, .int .i64 0])
  have HF1 : Hid (Fr No W ((W.alloc (.cells #[.int .i64 f, .int .i64 i, .int .i64 t] 31)).alloc (.cells #[.int .i64 0, .int .i64 0, .int .i64 0] 31))) := HF.out.trans (Fr.alloc _ _ _)
  have HL : Hid (W.heap.size = W.heap.size) := rfl
  rw [show (W.alloc (.cells #[.int .i64 f, .int .i64 i, .int .i64 t] 31)).heap.size = W.heap.size + 1 from by simp] at HZ
  generalize World.alloc (World.alloc W _) _ = W1 at HR1 HZ HF1 ⊢
  clear HR HF HL
  generalize hB : W.heap.size = B at HR1 HZ ⊢
  have hZB : B + 1 ≠ B ∧ B < B + 1 := by omega
  generalize B + 1 = Z at HZ hZB ⊢
  have HZB := Lib.hid hZB
  have HB := Lib.hid hB
  clear hB hZB
  have c0 : W1.cell? ⟨B, 0, none⟩ = some (.int .i64 f) := HR1.out.cell 0
  have c1 : W1.cell? ⟨B, 1, none⟩ = some (.int .i64 i) := HR1.out.cell 1
  have c2 : W1.cell? ⟨B, 2, none⟩ = some (.int .i64 t) := HR1.out.cell 2
  have HQ : Hid (∀ W2, Fr No W1 W2 → W2.cell? ⟨B, 0, none⟩ = some (.int .i64 f) ∧ W2.cell? ⟨B, 1, none⟩ = some (.int .i64 i) ∧ W2.cell? ⟨B, 2, none⟩ = some (.int .i64 t)) := fun W2 g => ⟨(HR1.out.fr g id).cell 0, (HR1.out.fr g id).cell 1, (HR1.out.fr g id).cell 2⟩
  go_region_held3 (fun w' => w'.cell? ⟨B, 0, none⟩ = some (.int .i64 f) ∧ w'.cell? ⟨B, 1, none⟩ = some (.int .i64 i) ∧ w'.cell? ⟨B, 2, none⟩ = some (.int .i64 t))
    (first | (exact ⟨c0, c1, c2⟩) | (exact HQ.out _ F2.out))
    (first
      | (go_at_call 47; refine (HO.out _).mono ?_; rintro e W2 ⟨rfl, f2⟩; have F2 : Hid (Fr No W1 W2) := (Fr.drew _ _).trans f2; clear f2))
  clear c0 c1 c2 w1 w2 w3 v1 v2 v3
  generalize f + (q + 1) * i = s at HN ⊢
  have HR2 := Lib.hid (HR1.out.fr F2.out id)
  have HZ2 := Lib.hid (HZ.out.fr F2.out id)
  have c0 : W2.cell? ⟨B, 0, none⟩ = some (.int .i64 f) := HR2.out.cell 0
  have c1 : W2.cell? ⟨B, 1, none⟩ = some (.int .i64 i) := HR2.out.cell 1
  have f0 : W2.frozen? ⟨B, 0, none⟩ = false := HR2.out.frozen 0
  have HR3 : Hid (∀ u, RowAt (W2.setCell ⟨B, 0, none⟩ (.int .i64 u)) B 31 #[.int .i64 u, .int .i64 i, .int .i64 t]) := fun u => HR2.out.set 0 _
  have HZ3 : Hid (∀ u, RowAt (W2.setCell ⟨B, 0, none⟩ (.int .i64 u)) Z 31 #[.int .i64 0, .int .i64 0, .int .i64 0]) := fun u => HZ2.out.other HZB.out.1 0 _
  have HQ5 : Hid (∀ u v, Fr No W ((W2.setCell ⟨B, 0, none⟩ (.int .i64 u)).setRow Z v)) := fun u v => by
    have h1 : Fr (fun k => k = B ∨ k = Z) W2 ((W2.setCell ⟨B, 0, none⟩ (.int .i64 u)).setRow Z v) := (Fr.set _ _ _ _ (.inl rfl)).trans (Fr.setRow _ _ _ (.inr rfl))
    exact (HF1.out.trans F2.out).over h1 fun k e => by
      have e1 := HB.out
      rcases e with e | e
      · right; omega
      · right; have := HZB.out.2; omega
  have HE : Hid (∀ u, spV u i t = .agg #[.int .i64 u, .int .i64 i, .int .i64 t]) := fun _ => rfl
  by_cases hi : i = 0
  · subst hi
    have HZN : Hid (z = 0) := by show _ = _; rw [HN.out]; rfl
    go_wp2_with (first
      | ((with_reducible refine ld_gate ?_); refine wpList_load_mid rfl 31 (Operand.tmp 2) rfl B 0 rfl [_, _, _] _ (HR3.out 0).range Try.underlying31 rfl size_spec ?_; go_frame)
      | ((with_reducible refine st_gate ?_); refine wpList_store_row rfl 31 (Operand.tmp 4) (Operand.tmp 25) rfl Z #[.int .i64 0, .int .i64 0, .int .i64 t] rfl rfl _ _ (HZ3.out 0) size_spec rfl (by simp [Value.oneCell']) ?_))
    refine bodyPost_ret (v := .agg #[.int .i64 0, .int .i64 0, .int .i64 t]) (results_cell_row rfl _ _ Z 31 _ (0, 0) _ rfl (setRow_heap _ _ _ _ _ _ (HZ3.out 0)) Try.underlying31 rfl size_spec) rfl ⟨by rw [HZN.out], HQ5.out _ _⟩
  · have hn : (i == 0) = false := by simpa using hi
    have HI := Lib.hid hi
    clear hi
    by_cases hs : 1099511627776 < s
    · have HZN : Hid (z = 0) := by show _ = _; rw [HN.out, if_neg HI.out, if_pos (by exact hs)]
      go_wp2_with (first
        | ((with_reducible refine ld_gate ?_); refine wpList_load_mid rfl 31 (Operand.tmp 2) rfl B 0 rfl [_, _, _] _ (HR3.out 0).range Try.underlying31 rfl size_spec ?_; go_frame)
        | ((with_reducible refine st_gate ?_); refine wpList_store_row rfl 31 (Operand.tmp 4) (Operand.tmp 25) rfl Z #[.int .i64 0, .int .i64 i, .int .i64 t] rfl rfl _ _ (HZ3.out 0) size_spec rfl (by simp [Value.oneCell']) ?_))
      refine bodyPost_ret (v := .agg #[.int .i64 0, .int .i64 i, .int .i64 t]) (results_cell_row rfl _ _ Z 31 _ (0, 0) _ rfl (setRow_heap _ _ _ _ _ _ (HZ3.out 0)) Try.underlying31 rfl size_spec) rfl ⟨by rw [HZN.out], HQ5.out _ _⟩
    · have HZN : Hid (z = s) := by show _ = _; rw [HN.out, if_neg HI.out, if_neg (by exact hs)]
      have hs' : decide (1099511627776 < s) = false := by simpa using hs
      clear hs
      go_wp2_with (first
        | ((with_reducible refine ld_gate ?_); refine wpList_load_mid rfl 31 (Operand.tmp 2) rfl B 0 rfl [_, _, _] _ (HR3.out s).range Try.underlying31 rfl size_spec ?_; go_frame)
        | ((with_reducible refine st_gate ?_); refine wpList_store_row rfl 31 (Operand.tmp 4) (Operand.tmp 25) rfl Z #[.int .i64 s, .int .i64 i, .int .i64 t] rfl rfl _ _ (HZ3.out s) size_spec rfl (by simp [Value.oneCell']) ?_))
      refine bodyPost_ret (v := .agg #[.int .i64 s, .int .i64 i, .int .i64 t]) (results_cell_row rfl _ _ Z 31 _ (0, 0) _ rfl (setRow_heap _ _ _ _ _ _ (HZ3.out s)) Try.underlying31 rfl size_spec) rfl ⟨by rw [HZN.out], HQ5.out _ _⟩
end Go.Proofs.Ytkjokmfhmppinaa
