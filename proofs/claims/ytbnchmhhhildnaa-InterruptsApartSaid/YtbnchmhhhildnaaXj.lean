/- Interrupts: Mask, Unmask. -/
import Derived.Test.YtbnchmhhhildnaaXi
namespace Go.Proofs.Ytbnchmhhhildnaa
open Go.RowKit Go.Maps
set_option linter.unusedVariables false

noncomputable def setCn (s : IS) (k : Int × Int) (v : Int) : IS := { s with cn := fun x => upd s.cn k v x }
theorem cnc_cell0 {W : World} {Z : Nat} {e : Int × Int} (h : RowAt W Z 81 (cnc e)) : W.cell? ⟨Z, 0, none⟩ = some (.int .i64 e.1) ∧ W.cell? ⟨Z, 1, none⟩ = some (.int .i64 e.2) := ⟨h.cell 0, h.cell 1⟩
theorem fd0 {s : IS} {n x : Int} (h : fdE s n x = 0) : ∃ (m : Nat) (l : IL), n = m ∧ s.ls[m]? = some l ∧ (x = -1 ∨ x ∈ l.o) := by
  unfold fdE at h
  split at h
  · rename_i hn
    obtain ⟨m, rfl⟩ : ∃ m : Nat, n = m := ⟨n.toNat, by omega⟩
    have hm : m < s.ls.length := by omega
    refine ⟨m, s.ls[m], rfl, List.getElem?_eq_getElem hm, ?_⟩
    split at h
    · rename_i hx; exact .inl hx
    · rw [Int.toNat_natCast, List.getElem?_eq_getElem hm] at h
      simp only at h
      split at h
      · rename_i hc; exact .inr (by simpa using hc)
      · omega
  · omega
theorem IOk.setCn {s : IS} (h : IOk s) {n x v : Int} (hf : fdE s n x = 0) (h0 : 0 ≤ v) (h1 : v ≤ 1000) : IOk (setCn s (n, x) v) := by
  refine ⟨h.n0, h.n1, h.srt, h.key, h.cnt, h.ord, h.dup, h.lin, fun k => ?_, fun k => ?_, fun i z hz => ?_⟩
  · show 0 ≤ upd s.cn (n, x) v k
    by_cases e : k = (n, x)
    · subst e; rw [upd_same]; exact h0
    · rw [upd_other e]; exact h.c0 k
  · show upd s.cn (n, x) v k ≤ 1000
    by_cases e : k = (n, x)
    · subst e; rw [upd_same]; exact h1
    · rw [upd_other e]; exact h.c1 k
  · by_cases e : ((i : Int), z) = (n, x)
    · have ea : (i : Int) = n := congrArg Prod.fst e
      have eb : z = x := congrArg Prod.snd e
      subst eb
      obtain ⟨m, l, e1, hl, hx⟩ := fd0 hf
      have : m = i := by omega
      subst this
      rcases hx with hx | hx
      · exact .inl hx
      · exact .inr ((h.ord m l z hl).1 hx)
    · have hz : upd s.cn (n, x) v ((i : Int), z) ≠ 0 := hz
      rw [upd_other e] at hz
      exact h.cz i z hz
theorem fd_ok {s : IS} (h : IOk s) {n x : Int} (hf : fdE s n x = 0) : isW n ∧ isW x := by
  obtain ⟨m, l, rfl, hl, hx⟩ := fd0 hf
  refine ⟨h.nW hl, ?_⟩
  rcases hx with rfl | hx
  · exact isW_m1
  · exact h.oW hl hx
set_option maxRecDepth 100000 in
set_option maxHeartbeats 1000000 in
theorem mask_err {W : World} {a : Option Addr} {n x z : Int} {p q : Int} (hz : z ≠ 0) (hf : Calls Try.prog 46 #[.pointer a, .int .i64 n, .int .i64 x] W fun e w' => e = .returned (.tuple #[kE p q, .int .i64 z]) ∧ Fr No W w') :
    Calls Try.prog 21 #[.pointer a, .int .i64 n, .int .i64 x] W fun e w' => e = .returned (.tuple #[.int .i64 0, .int .i64 z]) ∧ Fr No W w' := by
  have HC := Lib.hid hf
  have hz' : (z != 0) = true := by simpa using hz
  clear hf hz
  unfold kE at HC
  go_enter Try.func21, Try.ntmps21
  go_wp2_with (first
    | (go_at_call 46; refine HC.out.mono ?_; rintro e w2 ⟨rfl, f2⟩; have F2 := Lib.hid f2; clear f2)
    | ((with_reducible refine st_gate ?_); refine wpList_store_row rfl 81 (Operand.tmp 8) (Operand.tmp 15) rfl w2.heap.size (cnc (p, q)) rfl rfl _ (cnc (0, 0)) (RowAt.new w2 _ _) size_cnt rfl (cnc_one _) ?_; rw [World.setRow_alloc_new]))
  go_ret2
  exact ⟨rfl, F2.out.trans (Fr.alloc _ _ _)⟩
set_option maxRecDepth 100000 in
set_option maxHeartbeats 4000000 in
theorem mask_full {W : World} {O : Nat → Prop} {B : Nat} {y : LY} {s : IS} (h : CM W O B y s) (hk : IOk s) {n x : Int} (hf : fdE s n x = 0) (hb : s.cn (n, x) = 1000) :
    Calls Try.prog 21 #[.pointer (some ⟨B, 0, none⟩), .int .i64 n, .int .i64 x] W fun e w' => e = .returned (.tuple #[.int .i64 0, .int .i64 18]) ∧ Fr No W w' := by
  have hc := find_any h hk n x
  unfold fdK at hc
  rw [hf, if_pos rfl] at hc
  have HC := Lib.hid hc
  have HH := Lib.hid h
  have HW := Lib.hid (fd_ok hk hf)
  have HB := Lib.hid hb
  clear hc h hk hf hb
  unfold kE at HC
  go_enter Try.func21, Try.ntmps21
  go_upto_region 4 with (first
    | (go_at_call 46; refine HC.out.mono ?_; rintro e w2 ⟨rfl, f2⟩; have F2 := Lib.hid f2; clear f2)
    | ((with_reducible refine st_gate ?_); refine wpList_store_row rfl 81 (Operand.tmp 8) (Operand.tmp 15) rfl w2.heap.size (cnc (n, x)) rfl rfl _ (cnc (0, 0)) (RowAt.new w2 _ _) size_cnt rfl (cnc_one _) ?_; rw [World.setRow_alloc_new]))
  have HF3 : Hid (Fr No W (w2.alloc (.cells (cnc (n, x)) 81))) := F2.out.trans (Fr.alloc _ _ _)
  have HZ := Lib.hid (RowAt.new w2 81 (cnc (n, x)))
  generalize World.alloc w2 _ = W3 at HF3 HZ ⊢
  generalize w2.heap.size = Z at HZ ⊢
  have HM := Lib.hid (HH.out.no HF3.out)
  have c2 : W3.cell? ⟨B, 2, none⟩ = some (.map (some y.c)) := HM.out.row.cell 2
  have x0 : W3.cell? ⟨Z, 0, none⟩ = some (.int .i64 n) := HZ.out.cell 0
  have x1 : W3.cell? ⟨Z, 1, none⟩ = some (.int .i64 x) := HZ.out.cell 1
  have m0 : (Instr.lookup 59 (.map (some y.c)) (.agg #[.int .i64 n, .int .i64 x]) false).run Try.prog W3.drew = .ok (.int .i64 1000) W3.drew := by
    have := (HM.out.no (Fr.drew No W3)).mc.look (k := (n, x)) HW.out
    rw [HB.out] at this
    exact this
  go_region_held3 (fun w' => w'.cell? ⟨B, 2, none⟩ = some (.map (some y.c)) ∧ w'.cell? ⟨Z, 0, none⟩ = some (.int .i64 n) ∧ w'.cell? ⟨Z, 1, none⟩ = some (.int .i64 x))
    (exact ⟨c2, x0, x1⟩)
    (fail)
  clear c2 x0 x1 m0
  go_wp2
  go_ret2
  exact ⟨rfl, HF3.out.trans (Fr.drew _ _)⟩
set_option maxRecDepth 100000 in
set_option maxHeartbeats 4000000 in
theorem mask_ok {W : World} {O : Nat → Prop} {B : Nat} {y : LY} {s : IS} (h : CM W O B y s) (hk : IOk s) {n x : Int} (hf : fdE s n x = 0) (hb : s.cn (n, x) < 1000) :
    Calls Try.prog 21 #[.pointer (some ⟨B, 0, none⟩), .int .i64 n, .int .i64 x] W fun e w' => e = .returned (.tuple #[.int .i64 (sumI (setCn s (n, x) (s.cn (n, x) + 1)) n), .int .i64 0]) ∧ CM w' O B y (setCn s (n, x) (s.cn (n, x) + 1)) ∧ Fr O W w' := by
  have hc := find_any h hk n x
  unfold fdK at hc
  rw [hf, if_pos rfl] at hc
  have HC := Lib.hid hc
  have HH := Lib.hid h
  have HW := Lib.hid (fd_ok hk hf)
  have hn0 := hk.c0 (n, x)
  have HK := Lib.hid (hk.setCn hf (v := s.cn (n, x) + 1) (by omega) (by omega))
  obtain ⟨m, l, rfl, hl, hx⟩ := fd0 hf
  have HL := Lib.hid hl
  have hw : IntKind.i64.wrap (s.cn ((m : Int), x) + 1) = s.cn ((m : Int), x) + 1 := IntWalk.i64_in _ (by omega)
  have HV : Hid (sumI (setCn s ((m : Int), x) (s.cn ((m : Int), x) + 1)) m = sumL (setCn s ((m : Int), x) (s.cn ((m : Int), x) + 1)) m l.o) := by
    show _ = _
    unfold sumI
    rw [ordL_nat (s := setCn s ((m : Int), x) (s.cn ((m : Int), x) + 1)) hl]
  have HSZ := Lib.hid h.top
  clear hc h hk hf hl hx
  generalize hv : s.cn ((m : Int), x) = v at hw hb hn0 HK HV
  have HVV := Lib.hid hv
  clear hv
  unfold kE at HC
  have hlt : decide (1000 ≤ v) = false := by simp; omega
  go_enter Try.func21, Try.ntmps21
  go_upto_region 4 with (first
    | (go_at_call 46; refine HC.out.mono ?_; rintro e w2 ⟨rfl, f2⟩; have F2 := Lib.hid f2; clear f2)
    | ((with_reducible refine st_gate ?_); refine wpList_store_row rfl 81 (Operand.tmp 8) (Operand.tmp 15) rfl w2.heap.size (cnc ((m : Int), x)) rfl rfl _ (cnc (0, 0)) (RowAt.new w2 _ _) size_cnt rfl (cnc_one _) ?_; rw [World.setRow_alloc_new]))
  have HF3 : Hid (Fr No W (w2.alloc (.cells (cnc ((m : Int), x)) 81))) := F2.out.trans (Fr.alloc _ _ _)
  have HZ := Lib.hid (RowAt.new w2 81 (cnc ((m : Int), x)))
  have HZW : Hid (W.heap.size ≤ w2.heap.size) := F2.out.size
  generalize World.alloc w2 _ = W3 at HF3 HZ ⊢
  generalize w2.heap.size = Z at HZ HZW ⊢
  have HM := Lib.hid (HH.out.no HF3.out)
  have c2 : W3.cell? ⟨B, 2, none⟩ = some (.map (some y.c)) := HM.out.row.cell 2
  have x0 : W3.cell? ⟨Z, 0, none⟩ = some (.int .i64 m) := HZ.out.cell 0
  have x1 : W3.cell? ⟨Z, 1, none⟩ = some (.int .i64 x) := HZ.out.cell 1
  have m0 : (Instr.lookup 59 (.map (some y.c)) (.agg #[.int .i64 m, .int .i64 x]) false).run Try.prog W3.drew = .ok (.int .i64 v) W3.drew := by
    have := (HM.out.no (Fr.drew No W3)).mc.look (k := ((m : Int), x)) HW.out
    rw [HVV.out] at this
    exact this
  go_region_held3 (fun w' => w'.cell? ⟨B, 2, none⟩ = some (.map (some y.c)) ∧ w'.cell? ⟨Z, 0, none⟩ = some (.int .i64 m) ∧ w'.cell? ⟨Z, 1, none⟩ = some (.int .i64 x))
    (exact ⟨c2, x0, x1⟩)
    (fail)
  clear m0
  have HF4 : Hid (Fr No W W3.drew) := HF3.out.trans (Fr.drew _ _)
  have HM4 := Lib.hid (HM.out.no (Fr.drew No W3))
  have HZ4 := Lib.hid (HZ.out.fr (Fr.drew No W3) id)
  have d2 : W3.drew.cell? ⟨B, 2, none⟩ = some (.map (some y.c)) := c2
  have d0 : W3.drew.cell? ⟨Z, 0, none⟩ = some (.int .i64 m) := x0
  have d1 : W3.drew.cell? ⟨Z, 1, none⟩ = some (.int .i64 x) := x1
  clear c2 x0 x1
  go_upto_region 6 with (fail)
  generalize World.drew W3 = W4 at HF4 HM4 HZ4 d2 d0 d1 ⊢
  have HM5 := Lib.hid (HM4.out.no (Fr.drew No W4))
  have l0 : (Instr.lookup 59 (.map (some y.c)) (.agg #[.int .i64 m, .int .i64 x]) false).run Try.prog W4.drew = .ok (.int .i64 v) W4.drew := by
    have := HM5.out.mc.look (k := ((m : Int), x)) HW.out
    rw [HVV.out] at this
    exact this
  obtain ⟨st, W6, e1, e2, e3, e4⟩ := HM5.out.mc.entry (k := ((m : Int), x)) HW.out
  obtain ⟨W7, g1, g2, g3⟩ := e4 W6 (v + 1) rfl
  have HM7 : Hid (CM W7 O B y (setCn s ((m : Int), x) (v + 1))) := HM5.out.setC (e3.trans g3) g2
  have HF7 : Hid (Fr O W W7) := HF4.out.any.trans ((Fr.drew _ _).trans ((e3.trans g3).mono (fun k _ hk => by subst hk; exact HM5.out.oc)))
  have m1 : (Instr.mapEntry 59 (.map (some y.c)) (.agg #[.int .i64 m, .int .i64 x])).run Try.prog W4.drew = .ok (.tuple #[.int .i64 v, goInt st]) W6 := by
    rw [HVV.out] at e1
    exact e1
  have m2 : (Instr.entryStore 59 (.map (some y.c)) (.int .i64 (st : Int)) (.int .i64 (v + 1))).run Try.prog W6 = .ok () W7 := g1
  have l1 : (Instr.lookup 59 (.map (some y.c)) (.agg #[.int .i64 m, .int .i64 x]) false).run Try.prog W6 = .ok (.int .i64 v) W6 := by
    have := (HM5.out.setC e3 e2).mc.look (k := ((m : Int), x)) HW.out
    rw [HVV.out] at this
    exact this
  have HYC : Hid (Z ≠ y.c) := by
    have := HSZ.out _ HH.out.oc
    have := HZW.out
    show ¬ _ = _
    omega
  have HZ6 := Lib.hid (((HZ4.out.fr (Fr.drew No W4) id).fr e3 HYC.out))
  have HZ7 := Lib.hid (HZ6.out.fr g3 HYC.out)
  have HK6 : Hid (W6.cell? ⟨B, 2, none⟩ = some (.map (some y.c)) ∧ W6.cell? ⟨Z, 0, none⟩ = some (.int .i64 m) ∧ W6.cell? ⟨Z, 1, none⟩ = some (.int .i64 x)) := ⟨(HM5.out.setC e3 e2).row.cell 2, HZ6.out.cell 0, HZ6.out.cell 1⟩
  have HK7 : Hid (W7.cell? ⟨B, 2, none⟩ = some (.map (some y.c)) ∧ W7.cell? ⟨Z, 0, none⟩ = some (.int .i64 m) ∧ W7.cell? ⟨Z, 1, none⟩ = some (.int .i64 x)) := ⟨HM7.out.row.cell 2, HZ7.out.cell 0, HZ7.out.cell 1⟩
  clear e1 e2 e3 e4 g1 g2 g3
  have hs := sum_ok HM7.out HK.out (n := m) (l := l) HL.out
  rw [← HV.out] at hs
  have HS := Lib.hid hs
  clear hs
  go_region_held3 (fun w' => w'.cell? ⟨B, 2, none⟩ = some (.map (some y.c)) ∧ w'.cell? ⟨Z, 0, none⟩ = some (.int .i64 m) ∧ w'.cell? ⟨Z, 1, none⟩ = some (.int .i64 x))
    (first | (exact ⟨d2, d0, d1⟩) | (exact HK6.out) | (exact HK7.out))
    (fail)
  all_goals (
    clear d2 d0 d1 l0 l1 m1 m2
    go_wp2_with (go_at_call 40; refine HS.out.mono ?_; rintro e w8 ⟨rfl, f8⟩; subst f8)
    go_ret2
    exact ⟨rfl, HM7.out, HF7.out⟩)
end Go.Proofs.Ytbnchmhhhildnaa
