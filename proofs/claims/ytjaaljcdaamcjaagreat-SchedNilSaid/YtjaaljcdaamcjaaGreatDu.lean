/- The chapter's example of stage 6: awake returns true. -/
import Derived.Test.YtjaaljcdaamcjaaGreatDt
import Derived.Test.YtjaaljcdaamcjaaGreatYq
namespace Go.Proofs.YtjaaljcdaamcjaaGreat
open Go.RowKit Go.Proofs.YtjaaljcdaamcjaaGreat.Pa
set_option linter.unusedVariables false

set_option maxRecDepth 100000 in
theorem single_any (p : Int) (w : World) : Calls Tryz.prog 26 #[.int .i64 p] w fun e w' => ∃ g, e = .returned (.agg #[.int .i64 100, .int .i64 p, .slice (some ⟨g, 0, none⟩) 1 1]) ∧ PartsIn w' (some ⟨g, 0, none⟩) [(100, 0)] ∧ Fr Non w w' := by
  go_enter Tryz.func26, Tryz.ntmps26
  go_wp2
  have HR : Hid (RowAt ((w.alloc (.cells #[.int .i64 100, .int .i64 p, .slice (some ⟨w.heap.size + 1, 0, none⟩) 1 1] 24)).alloc (.cells #[.int .i64 100, .int .i64 0] 99)) w.heap.size 24 #[.int .i64 100, .int .i64 p, .slice (some ⟨w.heap.size + 1, 0, none⟩) 1 1]) := (RowAt.new w _ _).fr (Fr.alloc Non _ _) id
  have HP : Hid (RowAt ((w.alloc (.cells #[.int .i64 100, .int .i64 p, .slice (some ⟨w.heap.size + 1, 0, none⟩) 1 1] 24)).alloc (.cells #[.int .i64 100, .int .i64 0] 99)) (w.heap.size + 1) 99 #[.int .i64 100, .int .i64 0]) := by
    have := RowAt.new (w.alloc (.cells #[.int .i64 100, .int .i64 p, .slice (some ⟨w.heap.size + 1, 0, none⟩) 1 1] 24)) 99 #[.int .i64 100, .int .i64 0]
    rw [show (w.alloc (.cells #[.int .i64 100, .int .i64 p, .slice (some ⟨w.heap.size + 1, 0, none⟩) 1 1] 24)).heap.size = w.heap.size + 1 from by simp] at this
    exact this
  have HSZ : Hid ((Tryz.prog.info? 24).map (·.size) = some 3) := by show _ = _; kernel_rfl
  refine bodyPost_ret (v := .agg #[.int .i64 100, .int .i64 p, .slice (some ⟨w.heap.size + 1, 0, none⟩) 1 1]) (results_cell_row rfl _ _ w.heap.size 24 _ (0, 0) _ rfl HR.out Tryz.underlying24 rfl HSZ.out) rfl ⟨w.heap.size + 1, rfl, .inr ⟨w.heap.size + 1, 0, rfl, HP.out.lt, fun i x hx => ?_⟩, frA (frA (Fr.refl _ _))⟩
  match i, hx with
  | 0, hx =>
    injection hx with hx
    subst hx
    exact ⟨HP.out.cell 0, HP.out.cell 1⟩
theorem cfg_aw : cfgV 100 2 [(100, 0)] = 0 := by decide +kernel
def CW : CF := cfP 100 2 [(100, 0)]
theorem CW_np : CW.np = 1 := rfl
def pW (m : Int) : PS := ⟨0, 0, m, 0, false, 0, 0, 0, 0⟩
def enW (t : Nat) (m : Int) (r : Bool) : En := ⟨t, 10, r, -1, 0, pW m⟩
theorem SI.new {S mb qb : Nat} {W : World} {C : CF} {pr np : Nat} (h1 : SAt W S ⟨pr, np, mb, fun _ => none, qb, 0, -1⟩) (h2 : MS mb C 0 [] W) (h3 : Rd.QP qb Rd.noL (fun _ => 0) W) (h4 : S ≠ mb) (h5 : S ≠ qb) (h6 : mb ≠ qb) : SI S ⟨pr, np, mb, fun _ => none, qb, 0, -1⟩ C 0 [] Rd.noL (fun _ => 0) (fun _ => none) W :=
  ⟨h1, h2, h3, fun t b e => (nomatch e), fun _ _ => rfl, ⟨h4, h5, h6⟩, fun t b e => (nomatch e), fun t t' b e => (nomatch e)⟩
def ls1 : Nat → List Nat := Rd.ins Rd.noL 1 0 false
def ls2 : Nat → List Nat := Rd.ins ls1 2 0 false
def ls3 : Nat → List Nat := Rd.ins ls2 3 0 false
theorem order3 : Rd.order ls3 = [1, 2, 3] := by decide +kernel
theorem eq12 (w : World) (b cp : Nat) (h : StA w b [1, 2]) : Calls Tryz.prog 21 #[.slice (some ⟨b, 0, none⟩) 2 cp, .slice (some ⟨w.heap.size, 0, none⟩) 2 2] (w.alloc (.cells #[.int .i64 1, .int .i64 2] 3)) fun e w' => e = .returned (.bool true) ∧ (w.alloc (.cells #[.int .i64 1, .int .i64 2] 3)).grownBy w' none := by
  have hs := (h.fr (Fr.alloc Non w (.cells #[.int .i64 1, .int .i64 2] 3)) id).nums.2
  have hr := RowAt.new w 3 #[.int .i64 1, .int .i64 2]
  have h1 : Rd.SlN (w.alloc (.cells #[.int .i64 1, .int .i64 2] 3)) (.slice (some ⟨b, 0, none⟩) 2 cp) [1, 2] := ⟨_, cp, rfl, .inr ⟨b, rfl, fun j x hx => by
    match j, hx with
    | 0, hx => injection hx with hx; subst hx; exact hs 0 1 rfl
    | 1, hx => injection hx with hx; subst hx; exact hs 1 2 rfl⟩⟩
  have h2 : Rd.SlN (w.alloc (.cells #[.int .i64 1, .int .i64 2] 3)) (.slice (some ⟨w.heap.size, 0, none⟩) 2 2) [1, 2] := ⟨_, 2, rfl, .inr ⟨w.heap.size, rfl, fun j x hx => by
    rw [hr.cell]
    match j, hx with
    | 0, hx => injection hx with hx; subst hx; rfl
    | 1, hx => injection hx with hx; subst hx; rfl⟩⟩
  have := Rd.equal_any [1, 2] [1, 2] _ _ _ h1 h2 (by decide)
  rw [show decide ([1, 2] = [1, 2]) = true from by decide] at this
  exact this
def th0 : Nat → Option Nat := fun _ => none
section
variable {S : Nat} {s : ST} {ls : Nat → List Nat} {mk : Nat → Nat} {en : Nat → Option En} {W : World}
theorem updE_twice (en : Nat → Option En) (t : Nat) (a b : Option En) : updE (updE en t a) t b = updE en t b := by
  funext j; unfold updE; by_cases h : j = t <;> simp [h]
theorem aw_add (h : SI S s CW 0 [] ls mk en W) (hs : s.np = 1) (t : Nat) (ht : t < 256) (hn : s.th t = none) (m : Int) (hm : 0 < m ∧ m < 256) : Calls Tryz.prog 27 #[.pointer (some ⟨S, 0, none⟩), .int .i64 (t : Int), .int .i64 10, .agg (pW m).cells] W fun e w' => e = .returned (.int .i64 0) ∧ ∃ b, W.heap.size ≤ b ∧ SI S { s with th := updO s.th t (some b) } CW 0 [] ls mk (updE en t (some (enW t m false))) w' ∧ Fr (fun k => k = S) W w' :=
  add_fifo h t ht 10 ⟨by decide, by decide⟩ hn 0 m false hm ⟨by decide, by rw [hs]; decide⟩
theorem aw_ready {m : Int} {t : Nat} (h : SI S s CW 0 [] ls mk (updE en t (some (enW t m false))) W) (b : Nat) (ht : t < 256) (hb : s.th t = some b) (hm : mk t = 0) : Calls Tryz.prog 28 #[.pointer (some ⟨S, 0, none⟩), .int .i64 (t : Int)] W fun r w' => r = .returned (.int .i64 0) ∧ SI S s CW 0 [] (Rd.ins ls t 0 false) (Rd.upd mk t 1) (updE en t (some (enW t m true))) w' ∧ Fr (fun k => OW S s k) W w' := by
  refine (ready_ok h t b ht hb hm (e := enW t m false) (by simp [updE]) rfl).mono ?_
  rintro r w' ⟨rfl, h1, h2⟩
  rw [updE_twice] at h1
  exact ⟨rfl, h1, h2⟩
theorem ow_upd {X : Nat → Prop} (h : ∀ j, OW S s j → X j) {b : Nat} (hb : X b) (t : Nat) : ∀ j, OW S { s with th := updO s.th t (some b) } j → X j := by
  rintro j (rfl | rfl | rfl | ⟨u, hu⟩)
  · exact h _ (.inl rfl)
  · exact h _ (.inr (.inl rfl))
  · exact h _ (.inr (.inr (.inl rfl)))
  · by_cases e : u = t
    · subst e
      have hu2 : updO s.th u (some b) u = some j := hu
      rw [updO_same] at hu2
      injection hu2 with hu2
      exact hu2 ▸ hb
    · have hu2 : updO s.th t (some b) u = some j := hu
      rw [updO_other e] at hu2
      exact h _ (.inr (.inr (.inr ⟨u, hu2⟩)))
end
set_option maxRecDepth 100000 in
set_option maxHeartbeats 4000000 in
theorem awake_any (w : World) : Calls Tryz.prog 9 #[] w fun e w' => e = .returned (.bool true) ∧ Fr Non w w' := by
  have hmf := hmf_any
  go_enter Tryz.func9, Tryz.ntmps9
  go_upto_region 4 with (first
    | (go_at_call 26; refine (single_any 2 _).mono ?_; rintro e w1 ⟨g, rfl, hp, f1⟩; have HP := Lib.hid hp; have F1 := Lib.hid f1; clear hp f1)
    | (go_at_call 10; refine (new_ok w1 100 2 (some ⟨g, 0, none⟩) 1 [(100, 0)] HP.out cfg_aw).mono ?_; rintro e w2 ⟨S, mb, qb, rfl, hb, h1, h2, h3, f2⟩; have HB := Lib.hid hb; have HS2 : Hid (SI S ⟨2, 1, mb, th0, qb, 0, -1⟩ CW 0 [] Rd.noL (fun _ => 0) (fun _ => none) w2) := SI.new h1 h2 h3 hb.2.2.2.1 hb.2.2.2.2.1 hb.2.2.2.2.2; have F2 := Lib.hid f2; clear hb h1 h2 h3 f2))
  go_upto_region 5 with (fail)
  have HF3 : Hid (Fr Non w2 (w2.alloc (.cells #[.int .i64 1, .int .i64 255, .int .i64 255] 3))) := frA (Fr.refl _ _)
  have HM3 : Hid (RowAt (w2.alloc (.cells #[.int .i64 1, .int .i64 255, .int .i64 255] 3)) w2.heap.size 3 #[.int .i64 1, .int .i64 255, .int .i64 255]) := RowAt.new _ _ _
  generalize w2.alloc _ = w3 at HF3 HM3 ⊢
  obtain ⟨mk0, hmk0⟩ : ∃ mk0, w2.heap.size = mk0 := ⟨_, rfl⟩
  have HMK := Lib.hid hmk0
  rw [hmk0] at HM3 ⊢
  clear hmk0
  have HS3 := Lib.hid (HS2.out.fr HF3.out (fun _ _ e => e))
  have HMO0 : Hid (∀ j, OW S ⟨2, 1, mb, th0, qb, 0, -1⟩ j → j < mk0) := fun j hj => by have := HS2.out.own_lt hj; have := HMK.out; omega
  have HX0 : Hid (∀ j, OW S ⟨2, 1, mb, th0, qb, 0, -1⟩ j → w1.heap.size ≤ j) := by
    rintro j (rfl | rfl | rfl | ⟨t, ht⟩)
    · exact HB.out.1
    · exact HB.out.2.1
    · exact HB.out.2.2.1
    · cases ht
  have HFW0 : Hid (Fr (fun j => w1.heap.size ≤ j) w3 w3) := Fr.refl _ _
  have HM0 := HM3
  have HS0 := HS3
  have HNE0 : Hid (∀ j, OW S ⟨2, 1, mb, th0, qb, 0, -1⟩ j → j ≠ mk0) := fun j hj => by have := HMO0.out j hj; omega
  have m0 : w3.cell? ⟨mk0, 0, none⟩ = some (.int .i64 1) := HM0.out.cell 0
  have HWS : Hid (mk0 < w3.heap.size ∧ w1.heap.size ≤ w3.heap.size) := ⟨HM3.out.lt, by have := F2.out.size; have := HF3.out.size; omega⟩
  go_upto_region 6 with (fail)
  refine wp_loop_rounds 4 ?_
  rw [rounds_succ]
  have HA1 : Hid (Calls Tryz.prog 27 #[.pointer (some ⟨S, 0, none⟩), .int .i64 1, .int .i64 10, .agg #[.int .i64 0, .int .i64 0, .int .i64 1, .int .i64 0, .bool false, .int .i64 0, .int .i64 0, .int .i64 0, .int .i64 0]] w3 fun e w' => e = .returned (.int .i64 0) ∧ ∃ b, w3.heap.size ≤ b ∧ SI S ⟨2, 1, mb, updO th0 1 (some b), qb, 0, -1⟩ CW 0 [] Rd.noL (fun _ => 0) (updE (fun _ => none) 1 (some (enW 1 1 false))) w' ∧ Fr (fun k => k = S) w3 w') := aw_add HS0.out rfl 1 (by decide) rfl 1 (by decide)
  go_wp2_with (first
    | (go_at_call 27; refine HA1.out.mono ?_; rintro e wx1 ⟨rfl, b1, hb, hs, hf⟩; have HB1 := Lib.hid hb; have HSX1 := Lib.hid hs; have HFX1 := Lib.hid hf; clear hb hs hf; have HNE1 : Hid (∀ j, OW S ⟨2, 1, mb, (updO th0 1 (some b1)), qb, 0, -1⟩ j → j ≠ mk0) := ow_upd (X := fun j => j ≠ mk0) HNE0.out (by have := HB1.out; have := HM0.out.lt; show b1 ≠ mk0; omega) 1; have HX1 : Hid (∀ j, OW S ⟨2, 1, mb, (updO th0 1 (some b1)), qb, 0, -1⟩ j → w1.heap.size ≤ j) := ow_upd (X := fun j => w1.heap.size ≤ j) HX0.out (by have := HB1.out; have := HFW0.out.size; have := HWS.out.2; show _ ≤ b1; omega) 1)
    | (go_at_call 28; refine (show Calls Tryz.prog 28 #[.pointer (some ⟨S, 0, none⟩), .int .i64 1] wx1 (fun r w' => r = .returned (.int .i64 0) ∧ SI S ⟨2, 1, mb, (updO th0 1 (some b1)), qb, 0, -1⟩ CW 0 [] (Rd.ins Rd.noL 1 0 false) (Rd.upd (fun _ => 0) 1 1) (updE (fun _ => none) 1 (some (enW 1 1 true))) w' ∧ Fr (fun k => OW S ⟨2, 1, mb, (updO th0 1 (some b1)), qb, 0, -1⟩ k) wx1 w') from aw_ready HSX1.out b1 (by decide) rfl rfl).mono ?_; rintro e wy1 ⟨rfl, hs, hf⟩; have HS1 := Lib.hid hs; have HFY1 := Lib.hid hf; clear hs hf; have HM1 := Lib.hid ((HM0.out.fr HFX1.out (fun e => HNE0.out S (.inl rfl) e.symm)).fr HFY1.out (fun e => HNE1.out mk0 e rfl)); have HFW1 : Hid (Fr (fun j => w1.heap.size ≤ j) w3 wy1) := (HFW0.out.trans (HFX1.out.mono (fun j _ e => HX0.out j (.inl e)))).trans (HFY1.out.mono (fun j _ e => HX1.out j e)); have m1 : wy1.cell? ⟨mk0, 1, none⟩ = some (.int .i64 255) := HM1.out.cell 1))
  rw [rounds_succ]
  have HA2 : Hid (Calls Tryz.prog 27 #[.pointer (some ⟨S, 0, none⟩), .int .i64 2, .int .i64 10, .agg #[.int .i64 0, .int .i64 0, .int .i64 255, .int .i64 0, .bool false, .int .i64 0, .int .i64 0, .int .i64 0, .int .i64 0]] wy1 fun e w' => e = .returned (.int .i64 0) ∧ ∃ b, wy1.heap.size ≤ b ∧ SI S ⟨2, 1, mb, updO (updO th0 1 (some b1)) 2 (some b), qb, 0, -1⟩ CW 0 [] (Rd.ins Rd.noL 1 0 false) (Rd.upd (fun _ => 0) 1 1) (updE (updE (fun _ => none) 1 (some (enW 1 1 true))) 2 (some (enW 2 255 false))) w' ∧ Fr (fun k => k = S) wy1 w') := aw_add HS1.out rfl 2 (by decide) rfl 255 (by decide)
  go_wp2_with (first
    | (go_at_call 27; refine HA2.out.mono ?_; rintro e wx2 ⟨rfl, b2, hb, hs, hf⟩; have HB2 := Lib.hid hb; have HSX2 := Lib.hid hs; have HFX2 := Lib.hid hf; clear hb hs hf; have HNE2 : Hid (∀ j, OW S ⟨2, 1, mb, (updO (updO th0 1 (some b1)) 2 (some b2)), qb, 0, -1⟩ j → j ≠ mk0) := ow_upd (X := fun j => j ≠ mk0) HNE1.out (by have := HB2.out; have := HM1.out.lt; show b2 ≠ mk0; omega) 2; have HX2 : Hid (∀ j, OW S ⟨2, 1, mb, (updO (updO th0 1 (some b1)) 2 (some b2)), qb, 0, -1⟩ j → w1.heap.size ≤ j) := ow_upd (X := fun j => w1.heap.size ≤ j) HX1.out (by have := HB2.out; have := HFW1.out.size; have := HWS.out.2; show _ ≤ b2; omega) 2)
    | (go_at_call 28; refine (show Calls Tryz.prog 28 #[.pointer (some ⟨S, 0, none⟩), .int .i64 2] wx2 (fun r w' => r = .returned (.int .i64 0) ∧ SI S ⟨2, 1, mb, (updO (updO th0 1 (some b1)) 2 (some b2)), qb, 0, -1⟩ CW 0 [] (Rd.ins (Rd.ins Rd.noL 1 0 false) 2 0 false) (Rd.upd (Rd.upd (fun _ => 0) 1 1) 2 1) (updE (updE (fun _ => none) 1 (some (enW 1 1 true))) 2 (some (enW 2 255 true))) w' ∧ Fr (fun k => OW S ⟨2, 1, mb, (updO (updO th0 1 (some b1)) 2 (some b2)), qb, 0, -1⟩ k) wx2 w') from aw_ready HSX2.out b2 (by decide) rfl rfl).mono ?_; rintro e wy2 ⟨rfl, hs, hf⟩; have HS2 := Lib.hid hs; have HFY2 := Lib.hid hf; clear hs hf; have HM2 := Lib.hid ((HM1.out.fr HFX2.out (fun e => HNE1.out S (.inl rfl) e.symm)).fr HFY2.out (fun e => HNE2.out mk0 e rfl)); have HFW2 : Hid (Fr (fun j => w1.heap.size ≤ j) w3 wy2) := (HFW1.out.trans (HFX2.out.mono (fun j _ e => HX1.out j (.inl e)))).trans (HFY2.out.mono (fun j _ e => HX2.out j e)); have m2 : wy2.cell? ⟨mk0, 2, none⟩ = some (.int .i64 255) := HM2.out.cell 2))
  rw [rounds_succ]
  have HA3 : Hid (Calls Tryz.prog 27 #[.pointer (some ⟨S, 0, none⟩), .int .i64 3, .int .i64 10, .agg #[.int .i64 0, .int .i64 0, .int .i64 255, .int .i64 0, .bool false, .int .i64 0, .int .i64 0, .int .i64 0, .int .i64 0]] wy2 fun e w' => e = .returned (.int .i64 0) ∧ ∃ b, wy2.heap.size ≤ b ∧ SI S ⟨2, 1, mb, updO (updO (updO th0 1 (some b1)) 2 (some b2)) 3 (some b), qb, 0, -1⟩ CW 0 [] (Rd.ins (Rd.ins Rd.noL 1 0 false) 2 0 false) (Rd.upd (Rd.upd (fun _ => 0) 1 1) 2 1) (updE (updE (updE (fun _ => none) 1 (some (enW 1 1 true))) 2 (some (enW 2 255 true))) 3 (some (enW 3 255 false))) w' ∧ Fr (fun k => k = S) wy2 w') := aw_add HS2.out rfl 3 (by decide) rfl 255 (by decide)
  go_wp2_with (first
    | (go_at_call 27; refine HA3.out.mono ?_; rintro e wx3 ⟨rfl, b3, hb, hs, hf⟩; have HB3 := Lib.hid hb; have HSX3 := Lib.hid hs; have HFX3 := Lib.hid hf; clear hb hs hf; have HNE3 : Hid (∀ j, OW S ⟨2, 1, mb, (updO (updO (updO th0 1 (some b1)) 2 (some b2)) 3 (some b3)), qb, 0, -1⟩ j → j ≠ mk0) := ow_upd (X := fun j => j ≠ mk0) HNE2.out (by have := HB3.out; have := HM2.out.lt; show b3 ≠ mk0; omega) 3; have HX3 : Hid (∀ j, OW S ⟨2, 1, mb, (updO (updO (updO th0 1 (some b1)) 2 (some b2)) 3 (some b3)), qb, 0, -1⟩ j → w1.heap.size ≤ j) := ow_upd (X := fun j => w1.heap.size ≤ j) HX2.out (by have := HB3.out; have := HFW2.out.size; have := HWS.out.2; show _ ≤ b3; omega) 3)
    | (go_at_call 28; refine (show Calls Tryz.prog 28 #[.pointer (some ⟨S, 0, none⟩), .int .i64 3] wx3 (fun r w' => r = .returned (.int .i64 0) ∧ SI S ⟨2, 1, mb, (updO (updO (updO th0 1 (some b1)) 2 (some b2)) 3 (some b3)), qb, 0, -1⟩ CW 0 [] (Rd.ins (Rd.ins (Rd.ins Rd.noL 1 0 false) 2 0 false) 3 0 false) (Rd.upd (Rd.upd (Rd.upd (fun _ => 0) 1 1) 2 1) 3 1) (updE (updE (updE (fun _ => none) 1 (some (enW 1 1 true))) 2 (some (enW 2 255 true))) 3 (some (enW 3 255 true))) w' ∧ Fr (fun k => OW S ⟨2, 1, mb, (updO (updO (updO th0 1 (some b1)) 2 (some b2)) 3 (some b3)), qb, 0, -1⟩ k) wx3 w') from aw_ready HSX3.out b3 (by decide) rfl rfl).mono ?_; rintro e wy3 ⟨rfl, hs, hf⟩; have HS3 := Lib.hid hs; have HFY3 := Lib.hid hf; clear hs hf; have HM3 := Lib.hid ((HM2.out.fr HFX3.out (fun e => HNE2.out S (.inl rfl) e.symm)).fr HFY3.out (fun e => HNE3.out mk0 e rfl)); have HFW3 : Hid (Fr (fun j => w1.heap.size ≤ j) w3 wy3) := (HFW2.out.trans (HFX3.out.mono (fun j _ e => HX2.out j (.inl e)))).trans (HFY3.out.mono (fun j _ e => HX3.out j e))))
  rw [rounds_succ]
  go_upto_region 10 with (fail)
  have HF10 : Hid (Fr Non wy3 (wy3.alloc (.cells #[.int .i64 (-1), .int .i64 (-1)] 3))) := frA (Fr.refl _ _)
  have HN10 : Hid (NumsAt (wy3.alloc (.cells #[.int .i64 (-1), .int .i64 (-1)] 3)) wy3.heap.size 0 [-1, -1]) := by
    have hr := RowAt.new wy3 3 #[.int .i64 (-1), .int .i64 (-1)]
    refine ⟨hr.lt, fun i x hx => ?_⟩
    rw [Nat.zero_add, hr.cell]
    match i, hx with
    | 0, hx => injection hx with hx; subst hx; rfl
    | 1, hx => injection hx with hx; subst hx; rfl
  have HSS := Lib.hid (HS3.out.fr HF10.out (fun _ _ e => e))
  have HSP : Hid (Calls Tryz.prog 18 #[.pointer (some ⟨S, 0, none⟩), .int .i64 0, .slice (some ⟨wy3.heap.size, 0, none⟩) 2 2] (wy3.alloc (.cells #[.int .i64 (-1), .int .i64 (-1)] 3)) fun e w' => ∃ b cp, e = .returned (.tuple #[.slice (some ⟨b, 0, none⟩) 2 cp, .int .i64 0]) ∧ StA w' b [1, 2] ∧ Fr (fun j => w1.heap.size ≤ j) (wy3.alloc (.cells #[.int .i64 (-1), .int .i64 (-1)] 3)) w') := by
    refine (pick_flat HSS.out 0 0 10 (Nat.le_refl _) (Nat.le_refl _) (by decide) (cfP_ok cfg_aw) (by decide) [1, 2, 3] order3 (by decide) (by decide) (fun t ht => ?_) (fun t ht e he => ?_) wy3.heap.size 0 2 [-1, -1] HN10.out (fun j hj e => by have := HS3.out.own_lt hj; omega) (by decide) rfl ⟨by show 0 < 2; decide, by show 2 ≤ 8; decide⟩).mono ?_
    · rcases (by simpa using ht : t = 1 ∨ t = 2 ∨ t = 3) with rfl | rfl | rfl
      · exact ⟨b1, enW 1 1 true, by decide, rfl, rfl, rfl, rfl, rfl⟩
      · exact ⟨b2, enW 2 255 true, by decide, rfl, rfl, rfl, rfl, rfl⟩
      · exact ⟨b3, enW 3 255 true, by decide, rfl, rfl, rfl, rfl, rfl⟩
    · rcases (by simpa using ht : t = 1 ∨ t = 2 ∨ t = 3) with rfl | rfl | rfl
      · have e1 : enW 1 1 true = e := by injection he
        subst e1; exact ⟨rfl, by decide, by decide⟩
      · have e1 : enW 2 255 true = e := by injection he
        subst e1; exact ⟨rfl, by decide, by decide⟩
      · have e1 : enW 3 255 true = e := by injection he
        subst e1; exact ⟨rfl, by decide, by decide⟩
    · rintro e w' ⟨b, cp, rfl, h1, h2, h3, h4⟩
      exact ⟨b, cp, rfl, h2, h4.mono (fun j _ e => HX3.out j e)⟩
  clear m0 m1 m2
  go_upto_region 11 with (go_at_call 18; refine HSP.out.mono ?_; rintro e w11 ⟨b, cp, rfl, hst, hf⟩; have HST := Lib.hid hst; have HF11 := Lib.hid hf; clear hst hf)
  have HEQ : Hid (Calls Tryz.prog 21 #[.slice (some ⟨b, 0, none⟩) 2 cp, .slice (some ⟨w11.heap.size, 0, none⟩) 2 2] (w11.alloc (.cells #[.int .i64 1, .int .i64 2] 3)) fun e w' => e = .returned (.bool true) ∧ (w11.alloc (.cells #[.int .i64 1, .int .i64 2] 3)).grownBy w' none) := eq12 w11 b cp HST.out
  have HF12 : Hid (Fr Non w11 (w11.alloc (.cells #[.int .i64 1, .int .i64 2] 3))) := frA (Fr.refl _ _)
  go_wp2_with (go_at_call 21; refine HEQ.out.mono ?_; rintro e w12 ⟨rfl, hg⟩; have HG12 := Lib.hid hg; clear hg)
  go_ret
  refine ⟨rfl, ?_⟩
  have g1 := F1.out.size
  have fa : Fr (fun j => w1.heap.size ≤ j) w1 w11 := ((F2.out.trans HF3.out).mono (fun _ _ e => (nomatch e))).trans (HFW3.out.trans ((HF10.out.mono (fun _ _ e => (nomatch e))).trans HF11.out))
  exact Fr.over F1.out (fa.trans ((HF12.out.trans (fr_grown HG12.out (fun _ e => (nomatch e)))).mono (fun _ _ e => (nomatch e)))) (fun i e => .inr (by have e2 : w1.heap.size ≤ i := e; omega))
end Go.Proofs.YtjaaljcdaamcjaaGreat
