/- Package sched: what holds of a scheduler without servers; find, findIn, Add. -/
import Derived.Test.YtjaaljcdaamcjaaGreatDh
import Derived.Test.YtjaaljcdaamcjaaGreatDg
namespace Go.Proofs.YtjaaljcdaamcjaaGreat
open Go.RowKit Go.Proofs.YtjaaljcdaamcjaaGreat.Pa
set_option linter.unusedVariables false

/-- The scheduler's blocks. -/
def OW (S : Nat) (s : ST) (k : Nat) : Prop := k = S ∨ k = s.mb ∨ k = s.qb ∨ ∃ t, s.th t = some k
structure SI (S : Nat) (s : ST) (C : CF) (T : Nat) (L : List Ch) (ls : Nat → List Nat) (mk : Nat → Nat) (en : Nat → Option En) (W : World) : Prop where
  row : SAt W S s
  met : MS s.mb C T L W
  que : Rd.QP s.qb ls mk W
  ent : ∀ t b, s.th t = some b → ∃ e, en t = some e ∧ e.num = t ∧ EAt W b e none
  non : ∀ t, s.th t = none → en t = none
  ne : S ≠ s.mb ∧ S ≠ s.qb ∧ s.mb ≠ s.qb
  nt : ∀ t b, s.th t = some b → b ≠ S ∧ b ≠ s.mb ∧ b ≠ s.qb
  inj : ∀ t t' b, s.th t = some b → s.th t' = some b → t = t'
theorem SI.fr {S : Nat} {s : ST} {C : CF} {T : Nat} {L : List Ch} {ls : Nat → List Nat} {mk : Nat → Nat} {en : Nat → Option En} {W W' : World} {X : Nat → Prop} (h : SI S s C T L ls mk en W) (hf : Fr X W W') (hx : ∀ k, OW S s k → ¬ X k) : SI S s C T L ls mk en W' :=
  ⟨h.row.fr hf (hx _ (.inl rfl)), h.met.fr hf (hx _ (.inr (.inl rfl))), qp_fr h.que hf (hx _ (.inr (.inr (.inl rfl)))),
   fun t b e => by obtain ⟨x, h1, h2, h3⟩ := h.ent t b e; exact ⟨x, h1, h2, h3.fr hf (hx _ (.inr (.inr (.inr ⟨t, e⟩))))⟩, h.non, h.ne, h.nt, h.inj⟩
theorem SI.own_lt {S : Nat} {s : ST} {C : CF} {T : Nat} {L : List Ch} {ls : Nat → List Nat} {mk : Nat → Nat} {en : Nat → Option En} {W : World} (h : SI S s C T L ls mk en W) {k : Nat} (hk : OW S s k) : k < W.heap.size := by
  rcases hk with rfl | rfl | rfl | ⟨t, e⟩
  · exact h.row.lt
  · exact h.met.lt
  · exact h.que.lt
  · obtain ⟨x, _, _, h3⟩ := h.ent t k e; exact h3.lt
theorem made_ok {W : World} {S : Nat} {s : ST} (h : SAt W S s) : Calls Tryz.prog 44 #[.pointer (some ⟨S, 0, none⟩)] W fun e w' => e = .returned (.tuple #[]) ∧ W = w' := by
  have c2 := h.mb
  clear h
  go_enter Tryz.func44, Tryz.ntmps44
  go_wp2_with (go_at_call 58; refine (require_ok _ _).mono ?_; rintro e w2 ⟨rfl, f2⟩; subst f2)
  go_end0
  exact ⟨rfl, rfl⟩
theorem thr_ok {t : Nat} (ht : t < 256) : isThrB (t : Int) = true := by unfold isThrB; simp; omega
theorem pri_ok {p : Int} (h0 : 0 ≤ p) (h1 : p ≤ 255) : isPriB p = true := by unfold isPriB; simp; omega
set_option maxRecDepth 100000 in
theorem find_ok {W : World} {S : Nat} {s : ST} (h : SAt W S s) (t b : Nat) (ht : t < 256) (hb : s.th t = some b) : Calls Tryz.prog 118 #[.pointer (some ⟨S, 0, none⟩), .int .i64 (t : Int)] W fun e w' => e = .returned (.pointer (some ⟨b, 0, none⟩)) ∧ W = w' := by
  have HM := Lib.hid (made_ok h)
  have HI := Lib.hid (isthread_any (t : Int) W)
  rw [thr_ok ht] at HI
  have c3 : W.cell? ⟨S, 3 + t, none⟩ = some (.pointer (some ⟨b, 0, none⟩)) := by have := h.th t ht; rw [hb] at this; exact this
  have t0 : (0 : Int) ≤ t := by omega
  have t1 : (t : Int) < 256 := by omega
  clear h hb ht
  go_enter Tryz.func118, Tryz.ntmps118
  go_wp2_with (first
    | (go_at_call 44; refine HM.out.mono ?_; rintro e w2 ⟨rfl, f2⟩; subst f2)
    | (go_at_call 68; refine HI.out.mono ?_; rintro e w2 ⟨rfl, f2⟩; subst f2)
    | (go_at_call 58; refine (require_ok _ _).mono ?_; rintro e w2 ⟨rfl, f2⟩; subst f2))
  go_ret
  exact ⟨rfl, rfl⟩
set_option maxRecDepth 100000 in
theorem findin_ok {W : World} {S : Nat} {s : ST} (h : SAt W S s) (t b : Nat) (ht : t < 256) (hb : s.th t = some b) {e : En} {srv : Option Nat} (he : EAt W b e srv) (r : Bool) (hr : e.rdy = r) : Calls Tryz.prog 73 #[.pointer (some ⟨S, 0, none⟩), .int .i64 (t : Int), .bool r] W fun e w' => e = .returned (.pointer (some ⟨b, 0, none⟩)) ∧ W = w' := by
  have HM := Lib.hid (find_ok h t b ht hb)
  have c2 : W.cell? ⟨b, 2, none⟩ = some (.bool e.rdy) := RowAt.cell he 2
  rw [hr] at c2
  clear h hb ht he hr
  cases r
  all_goals
    go_enter Tryz.func73, Tryz.ntmps73
    go_wp2_with (first
      | (go_at_call 118; refine HM.out.mono ?_; rintro e w2 ⟨rfl, f2⟩; subst f2)
      | (go_at_call 58; refine (require_ok _ _).mono ?_; rintro e w2 ⟨rfl, f2⟩; subst f2))
    go_ret
    exact ⟨rfl, rfl⟩
def updE (f : Nat → Option En) (i : Nat) (x : Option En) : Nat → Option En := fun j => if j = i then x else f j
theorem SI.add {S : Nat} {s : ST} {C : CF} {T : Nat} {L : List Ch} {ls : Nat → List Nat} {mk : Nat → Nat} {en : Nat → Option En} {W W' : World} (h : SI S s C T L ls mk en W) {t b : Nat} (ht : t < 256) {e : En} (hn : e.num = t) (ho : s.th t = none) (hf : Fr Non W W') (hb : W.heap.size ≤ b) (he : EAt W' b e none) : SI S { s with th := updO s.th t (some b) } C T L ls mk (updE en t (some e)) (W'.setCell ⟨S, 3 + t, none⟩ (ptrV (some b))) := by
  have h' := h.fr hf (fun _ _ e => e)
  have hg : Fr (fun k => k = S) W' (W'.setCell ⟨S, 3 + t, none⟩ (ptrV (some b))) := Fr.set _ _ _ _ rfl
  have hl : ∀ k, OW S s k → k < b := fun k hk => Nat.lt_of_lt_of_le (h.own_lt hk) hb
  have hS := hl S (.inl rfl)
  refine ⟨h'.row.setTh t ht (some b), h'.met.fr hg (fun e => h.ne.1 e.symm), qp_fr h'.que hg (fun e => h.ne.2.1 e.symm), fun t' b' e' => ?_, fun t' e' => ?_, h.ne, fun t' b' e' => ?_, fun t1 t2 b' e1 e2 => ?_⟩
  · by_cases ht' : t' = t
    · subst ht'
      have : b = b' := by
        have e2 : updO s.th t' (some b) t' = some b' := e'
        rw [updO_same] at e2; injection e2
      subst this
      exact ⟨e, by simp [updE], hn, he.fr hg (fun x => by omega)⟩
    · have e2 : updO s.th t (some b) t' = some b' := e'
      rw [updO_other ht'] at e2
      obtain ⟨x, h1, h2, h3⟩ := h'.ent t' b' e2
      exact ⟨x, by simp [updE, ht', h1], h2, h3.fr hg (h.nt t' b' e2).1⟩
  · by_cases ht' : t' = t
    · subst ht'
      have e2 : updO s.th t' (some b) t' = none := e'
      rw [updO_same] at e2; cases e2
    · have e2 : updO s.th t (some b) t' = none := e'
      rw [updO_other ht'] at e2
      simp [updE, ht', h.non t' e2]
  · by_cases ht' : t' = t
    · subst ht'
      have e2 : updO s.th t' (some b) t' = some b' := e'
      rw [updO_same] at e2
      injection e2 with e2
      subst e2
      have h1 := hl s.mb (.inr (.inl rfl))
      have h2 := hl s.qb (.inr (.inr (.inl rfl)))
      exact ⟨by omega, by show b ≠ s.mb; omega, by show b ≠ s.qb; omega⟩
    · have e2 : updO s.th t (some b) t' = some b' := e'
      rw [updO_other ht'] at e2
      exact h.nt t' b' e2
  · have f1 : updO s.th t (some b) t1 = some b' := e1
    have f2 : updO s.th t (some b) t2 = some b' := e2
    by_cases h1 : t1 = t
    · by_cases h2 : t2 = t
      · omega
      · subst h1
        rw [updO_same] at f1
        rw [updO_other h2] at f2
        injection f1 with f1
        have := hl b' (.inr (.inr (.inr ⟨t2, f2⟩)))
        omega
    · rw [updO_other h1] at f1
      by_cases h2 : t2 = t
      · subst h2
        rw [updO_same] at f2
        injection f2 with f2
        have := hl b' (.inr (.inr (.inr ⟨t1, f1⟩)))
        omega
      · rw [updO_other h2] at f2
        exact h.inj t1 t2 b' f1 f2
set_option maxRecDepth 100000 in
set_option maxHeartbeats 2000000 in
theorem add_fifo {W : World} {S : Nat} {s : ST} {C : CF} {T : Nat} {L : List Ch} {ls : Nat → List Nat} {mk : Nat → Nat} {en : Nat → Option En} (h : SI S s C T L ls mk en W) (t : Nat) (ht : t < 256) (pri : Int) (hp : 0 ≤ pri ∧ pri ≤ 255) (hn : s.th t = none) (prt msk : Int) (cri : Bool) (hm : 0 < msk ∧ msk < 256) (hr : 0 ≤ prt ∧ prt < s.np) :
    Calls Tryz.prog 27 #[.pointer (some ⟨S, 0, none⟩), .int .i64 (t : Int), .int .i64 pri, .agg (PS.mk 0 0 msk prt cri 0 0 0 0).cells] W fun e w' => e = .returned (.int .i64 0) ∧ ∃ b, W.heap.size ≤ b ∧ SI S { s with th := updO s.th t (some b) } C T L ls mk (updE en t (some ⟨t, pri, false, -1, 0, ⟨0, 0, msk, prt, cri, 0, 0, 0, 0⟩⟩)) w' ∧ Fr (fun k => k = S) W w' := by
  have hmf := hmf_any
  have HS := Lib.hid h
  have HIT : Hid (∀ w, Calls Tryz.prog 68 #[.int .i64 (t : Int)] w fun e w' => e = .returned (.bool true) ∧ w = w') := fun w => by have := isthread_any (t : Int) w; rw [thr_ok ht] at this; exact this
  have HIP : Hid (∀ w, Calls Tryz.prog 69 #[.int .i64 pri] w fun e w' => e = .returned (.bool true) ∧ w = w') := fun w => by have := ispriority_any pri w; rw [pri_ok hp.1 hp.2] at this; exact this
  have HV := Lib.hid (isvalid_fifo prt msk cri s.np hm hr)
  have HNE := Lib.hid (fun w => newentry_any w t pri ⟨0, 0, msk, prt, cri, 0, 0, 0, 0⟩ (by show (0 : Int) ≠ 2; decide))
  have HT := Lib.hid ht
  have HN := Lib.hid hn
  have t0 : (0 : Int) ≤ t := by omega
  have t1 : (t : Int) < 256 := by omega
  clear h ht hp hn hm hr
  unfold PS.cells at HV HNE ⊢
  go_enter_defers Tryz.func27, Tryz.ntmps27
  go_upto_region 1 with (fail)
  have HR1 : Hid (RowAt ((W.alloc (.cells #[.int .i64 0, .int .i64 0, .int .i64 msk, .int .i64 prt, .bool cri, .int .i64 0, .int .i64 0, .int .i64 0, .int .i64 0] 41)).alloc (.cells #[.int .i64 0] 28)) W.heap.size 41 #[.int .i64 0, .int .i64 0, .int .i64 msk, .int .i64 prt, .bool cri, .int .i64 0, .int .i64 0, .int .i64 0, .int .i64 0]) := (RowAt.new W _ _).fr (Fr.alloc Non _ _) id
  have HE1 : Hid (RowAt ((W.alloc (.cells #[.int .i64 0, .int .i64 0, .int .i64 msk, .int .i64 prt, .bool cri, .int .i64 0, .int .i64 0, .int .i64 0, .int .i64 0] 41)).alloc (.cells #[.int .i64 0] 28)) (W.heap.size + 1) 28 #[.int .i64 0]) := by
    have := RowAt.new (W.alloc (.cells #[.int .i64 0, .int .i64 0, .int .i64 msk, .int .i64 prt, .bool cri, .int .i64 0, .int .i64 0, .int .i64 0, .int .i64 0] 41)) 28 #[.int .i64 0]
    rw [show (W.alloc (.cells #[.int .i64 0, .int .i64 0, .int .i64 msk, .int .i64 prt, .bool cri, .int .i64 0, .int .i64 0, .int .i64 0, .int .i64 0] 41)).heap.size = W.heap.size + 1 from by simp] at this
    exact this
  have HF1 : Hid (Fr Non W ((W.alloc (.cells #[.int .i64 0, .int .i64 0, .int .i64 msk, .int .i64 prt, .bool cri, .int .i64 0, .int .i64 0, .int .i64 0, .int .i64 0] 41)).alloc (.cells #[.int .i64 0] 28))) := frA (frA (Fr.refl _ _))
  obtain ⟨x, hx⟩ : ∃ x, W.heap.size = x := ⟨_, rfl⟩
  have HXX := Lib.hid hx
  rw [hx] at HR1 HE1 ⊢
  clear hx
  generalize World.alloc (World.alloc W _) _ = W1 at HR1 HE1 HF1 ⊢
  generalize hy : x + 1 = y at HE1 ⊢
  have HYY := Lib.hid hy
  clear hy
  have HS1 := Lib.hid (HS.out.fr HF1.out (fun _ _ e => e))
  have c3 : W1.cell? ⟨S, 3 + t, none⟩ = some (.pointer none) := by have := HS1.out.row.th t HT.out; rw [HN.out] at this; exact this
  have c1 : W1.cell? ⟨S, 1, none⟩ = some (.int .i64 (s.np : Int)) := HS1.out.row.np
  have r0 : W1.cell? ⟨x, 0, none⟩ = some (.int .i64 0) := HR1.out.cell 0
  have r1 : W1.cell? ⟨x, 1, none⟩ = some (.int .i64 0) := HR1.out.cell 1
  have r2 : W1.cell? ⟨x, 2, none⟩ = some (.int .i64 msk) := HR1.out.cell 2
  have r3 : W1.cell? ⟨x, 3, none⟩ = some (.int .i64 prt) := HR1.out.cell 3
  have r4 : W1.cell? ⟨x, 4, none⟩ = some (.bool cri) := HR1.out.cell 4
  have r5 : W1.cell? ⟨x, 5, none⟩ = some (.int .i64 0) := HR1.out.cell 5
  have r6 : W1.cell? ⟨x, 6, none⟩ = some (.int .i64 0) := HR1.out.cell 6
  have r7 : W1.cell? ⟨x, 7, none⟩ = some (.int .i64 0) := HR1.out.cell 7
  have r8 : W1.cell? ⟨x, 8, none⟩ = some (.int .i64 0) := HR1.out.cell 8
  go_upto_region 5 with (first
    | (go_at_call 44; refine (made_ok HS1.out.row).mono ?_; rintro e w2 ⟨rfl, f2⟩; subst f2)
    | (go_at_call 68; refine (HIT.out _).mono ?_; rintro e w2 ⟨rfl, f2⟩; subst f2)
    | (go_at_call 69; refine (HIP.out _).mono ?_; rintro e w2 ⟨rfl, f2⟩; subst f2)
    | (go_at_call 58; refine (require_ok _ _).mono ?_; rintro e w2 ⟨rfl, f2⟩; subst f2))
  have HKP : Hid (∀ W5, Fr Non W1 W5 → (W5.cell? ⟨x, 0, none⟩ = some (.int .i64 0) ∧ W5.cell? ⟨x, 1, none⟩ = some (.int .i64 0) ∧ W5.cell? ⟨x, 2, none⟩ = some (.int .i64 msk) ∧ W5.cell? ⟨x, 3, none⟩ = some (.int .i64 prt) ∧ W5.cell? ⟨x, 4, none⟩ = some (.bool cri) ∧ W5.cell? ⟨x, 5, none⟩ = some (.int .i64 0) ∧ W5.cell? ⟨x, 6, none⟩ = some (.int .i64 0) ∧ W5.cell? ⟨x, 7, none⟩ = some (.int .i64 0) ∧ W5.cell? ⟨x, 8, none⟩ = some (.int .i64 0)) ∧ W5.cell? ⟨S, 1, none⟩ = some (.int .i64 (s.np : Int))) := fun W5 f => by
    have q := (HR1.out.fr f id)
    exact ⟨⟨q.cell 0, q.cell 1, q.cell 2, q.cell 3, q.cell 4, q.cell 5, q.cell 6, q.cell 7, q.cell 8⟩, (HS1.out.row.fr f id).np⟩
  go_region_held3 (fun w' => (w'.cell? ⟨x, 0, none⟩ = some (.int .i64 0) ∧ w'.cell? ⟨x, 1, none⟩ = some (.int .i64 0) ∧ w'.cell? ⟨x, 2, none⟩ = some (.int .i64 msk) ∧ w'.cell? ⟨x, 3, none⟩ = some (.int .i64 prt) ∧ w'.cell? ⟨x, 4, none⟩ = some (.bool cri) ∧ w'.cell? ⟨x, 5, none⟩ = some (.int .i64 0) ∧ w'.cell? ⟨x, 6, none⟩ = some (.int .i64 0) ∧ w'.cell? ⟨x, 7, none⟩ = some (.int .i64 0) ∧ w'.cell? ⟨x, 8, none⟩ = some (.int .i64 0)) ∧ w'.cell? ⟨S, 1, none⟩ = some (.int .i64 (s.np : Int)))
    (first | (exact HKP.out _ (by first | exact F2.out | exact Fr.refl _ _ | exact frD F2.out | exact frD (Fr.refl _ _))) | go_keep)
    (first
      | (go_at_call 70; refine (HV.out _).mono ?_; rintro e W2 ⟨rfl, f2⟩; have F2 : Hid (Fr Non W1 W2) := (frD (Fr.refl _ _)).trans f2; clear f2)
      | (go_at_call 58; refine (require_ok _ _).mono ?_; rintro e W3 ⟨rfl, f3⟩; subst f3))
  clear c1 c3 r0 r1 r2 r3 r4 r5 r6 r7 r8
  go_upto_region 6 with (fail)
  have HK2 : Hid (∀ W5, Fr Non W2 W5 → (W5.cell? ⟨x, 0, none⟩ = some (.int .i64 0) ∧ W5.cell? ⟨x, 1, none⟩ = some (.int .i64 0) ∧ W5.cell? ⟨x, 2, none⟩ = some (.int .i64 msk) ∧ W5.cell? ⟨x, 3, none⟩ = some (.int .i64 prt) ∧ W5.cell? ⟨x, 4, none⟩ = some (.bool cri) ∧ W5.cell? ⟨x, 5, none⟩ = some (.int .i64 0) ∧ W5.cell? ⟨x, 6, none⟩ = some (.int .i64 0) ∧ W5.cell? ⟨x, 7, none⟩ = some (.int .i64 0) ∧ W5.cell? ⟨x, 8, none⟩ = some (.int .i64 0)) ∧ W5.cell? ⟨S, 3 + t, none⟩ = some (.pointer none) ∧ W5.frozen? ⟨S, 3 + t, none⟩ = false) := fun W5 f => by
    have q := HKP.out W5 (F2.out.trans f)
    have r := HS1.out.fr (F2.out.trans f) (fun _ _ e => e)
    refine ⟨q.1, ?_, r.row.frozen _⟩
    have := r.row.th t HT.out; rw [HN.out] at this; exact this
  have HSX : Hid (x ≠ S) := by have := HS.out.row.lt; have := HXX.out; show _ ≠ _; omega
  have HST : Hid (∀ (W5 : World) (v : Value), (W5.cell? ⟨x, 0, none⟩ = some (.int .i64 0) ∧ W5.cell? ⟨x, 1, none⟩ = some (.int .i64 0) ∧ W5.cell? ⟨x, 2, none⟩ = some (.int .i64 msk) ∧ W5.cell? ⟨x, 3, none⟩ = some (.int .i64 prt) ∧ W5.cell? ⟨x, 4, none⟩ = some (.bool cri) ∧ W5.cell? ⟨x, 5, none⟩ = some (.int .i64 0) ∧ W5.cell? ⟨x, 6, none⟩ = some (.int .i64 0) ∧ W5.cell? ⟨x, 7, none⟩ = some (.int .i64 0) ∧ W5.cell? ⟨x, 8, none⟩ = some (.int .i64 0)) → ((W5.setCell ⟨S, 3 + t, none⟩ v).cell? ⟨x, 0, none⟩ = some (.int .i64 0) ∧ (W5.setCell ⟨S, 3 + t, none⟩ v).cell? ⟨x, 1, none⟩ = some (.int .i64 0) ∧ (W5.setCell ⟨S, 3 + t, none⟩ v).cell? ⟨x, 2, none⟩ = some (.int .i64 msk) ∧ (W5.setCell ⟨S, 3 + t, none⟩ v).cell? ⟨x, 3, none⟩ = some (.int .i64 prt) ∧ (W5.setCell ⟨S, 3 + t, none⟩ v).cell? ⟨x, 4, none⟩ = some (.bool cri) ∧ (W5.setCell ⟨S, 3 + t, none⟩ v).cell? ⟨x, 5, none⟩ = some (.int .i64 0) ∧ (W5.setCell ⟨S, 3 + t, none⟩ v).cell? ⟨x, 6, none⟩ = some (.int .i64 0) ∧ (W5.setCell ⟨S, 3 + t, none⟩ v).cell? ⟨x, 7, none⟩ = some (.int .i64 0) ∧ (W5.setCell ⟨S, 3 + t, none⟩ v).cell? ⟨x, 8, none⟩ = some (.int .i64 0))) := fun W5 v q => by
    have e : ∀ i, (W5.setCell ⟨S, 3 + t, none⟩ v).cell? ⟨x, i, none⟩ = W5.cell? ⟨x, i, none⟩ := fun i => World.cell?_of_block (heap_setCell_other _ _ _ _ HSX.out)
    simp only [e]
    exact q
  go_region_held3 (fun w' => (w'.cell? ⟨x, 0, none⟩ = some (.int .i64 0) ∧ w'.cell? ⟨x, 1, none⟩ = some (.int .i64 0) ∧ w'.cell? ⟨x, 2, none⟩ = some (.int .i64 msk) ∧ w'.cell? ⟨x, 3, none⟩ = some (.int .i64 prt) ∧ w'.cell? ⟨x, 4, none⟩ = some (.bool cri) ∧ w'.cell? ⟨x, 5, none⟩ = some (.int .i64 0) ∧ w'.cell? ⟨x, 6, none⟩ = some (.int .i64 0) ∧ w'.cell? ⟨x, 7, none⟩ = some (.int .i64 0) ∧ w'.cell? ⟨x, 8, none⟩ = some (.int .i64 0)))
    (first | (with_reducible exact (HK2.out _ F3.out).1) | (with_reducible exact HST.out _ _ (HK2.out _ F3.out).1) | (exact (HK2.out _ (by first | exact F3.out | exact Fr.refl _ _ | exact frD F3.out | exact frD (Fr.refl _ _))).1) | go_keep)
    (first
      | (go_at_call 71; refine (HNE.out _).mono ?_; rintro e W3 ⟨b, rfl, hb, he, f3⟩; have F3 : Hid (Fr Non W2 W3) := (frD (Fr.refl _ _)).trans f3; have HB := Lib.hid hb; have HE := Lib.hid he; clear f3 hb he; have k1 := (HK2.out _ F3.out).2.1; have k2 := (HK2.out _ F3.out).2.2))
  have HS4 : Hid (SI S { s with th := updO s.th t (some b) } C T L ls mk (updE en t (some ⟨t, pri, false, -1, 0, ⟨0, 0, msk, prt, cri, 0, 0, 0, 0⟩⟩)) (W3.setCell ⟨S, 3 + t, none⟩ (.pointer (some ⟨b, 0, none⟩)))) :=
    SI.add (HS1.out.fr F2.out (fun _ _ e => e)) HT.out rfl HN.out F3.out HB.out HE.out
  have HF4 : Hid (Fr (fun k => k = S) W1 (W3.setCell ⟨S, 3 + t, none⟩ (.pointer (some ⟨b, 0, none⟩)))) := ((F2.out.trans F3.out).mono (fun _ _ e => (nomatch e))).trans (Fr.set _ _ _ _ rfl)
  have HYS : Hid (y ≠ S) := by have := HS.out.row.lt; have := HXX.out; have := HYY.out; show _ ≠ _; omega
  have HE4 := Lib.hid (HE1.out.fr HF4.out HYS.out)
  have hbs : Hid (W.heap.size ≤ b) := by have := HB.out; have g : W2.heap.size ≤ b := this; have := HF1.out.size; have := F2.out.size; show _ ≤ _; omega
  clear k1 k2
  generalize W3.setCell _ _ = W4 at HS4 HF4 HE4 ⊢
  have e0 : W4.cell? ⟨y, 0, none⟩ = some (.int .i64 0) := HE4.out.cell 0
  have e1 : W4.frozen? ⟨y, 0, none⟩ = false := HE4.out.frozen 0
  go_wp2
  refine leaves_cons (f := 67) (args := #[.pointer (some ⟨y, 0, none⟩)]) (by simp) (by simp [go_sem]) ?_
  refine (endAdd ⟨y, 0, none⟩ 0 _ (by simp [go_sem, e0]) (by simp [go_sem, e1])).mono ?_
  rintro e u' w'' ⟨rfl, rfl, rfl⟩
  simp [Leaves, settle, results, Tryz.results27, go_sem, e0]
  have hw : ∀ k, OW S { s with th := updO s.th t (some b) } k → ¬ k = y := fun k hk e => by
    subst e
    rcases hk with h | h | h | ⟨t', h⟩
    · exact HYS.out h
    · have := HS.out.met.lt; have := HXX.out; have := HYY.out; have h : k = s.mb := h; omega
    · have := HS.out.que.lt; have := HXX.out; have := HYY.out; have h : k = s.qb := h; omega
    · have h : updO s.th t (some b) t' = some k := h
      by_cases ht' : t' = t
      · subst ht'
        rw [updO_same] at h
        injection h with h
        have := HB.out; have g : W2.heap.size ≤ b := this
        have := F2.out.size; have := HE1.out.lt; omega
      · rw [updO_other ht'] at h
        have := HS.out.own_lt (.inr (.inr (.inr ⟨t', h⟩))); have := HXX.out; have := HYY.out; omega
  have hy2 : W.heap.size ≤ y := by have := HXX.out; have := HYY.out; omega
  have hyf : Fr (fun k => k = y) W4 ((W4.setCell ⟨y, 0, none⟩ (.int .i64 0)).setCell ⟨y, 0, none⟩ (.int .i64 0)) := frY (frY (Fr.refl _ _))
  exact ⟨b, hbs.out, HS4.out.fr hyf hw, frSn (frSn ((HF1.out.mono (fun _ _ e => (nomatch e))).trans HF4.out) hy2) hy2⟩
end Go.Proofs.YtjaaljcdaamcjaaGreat
