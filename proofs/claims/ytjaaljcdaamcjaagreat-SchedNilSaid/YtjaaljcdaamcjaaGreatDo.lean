/- Package sched: the stable sort of candidates between which nothing decides. -/
import Derived.Test.YtjaaljcdaamcjaaGreatDn
import Derived.Deep.LoopGhost
namespace Go.Proofs.YtjaaljcdaamcjaaGreat
open Go.RowKit Go.Proofs.YtjaaljcdaamcjaaGreat.Pa
set_option linter.unusedVariables false

/-- Block d holds these candidates. -/
def DAt (W : World) (d : Nat) (cs : List Cd) : Prop := d < W.heap.size ∧ ∀ i c, cs[i]? = some c → ∀ j u, c.cells[j]? = some u → W.cell? ⟨d, i * 6 + j, none⟩ = some u
theorem DAt.fr {W W' : World} {d : Nat} {cs : List Cd} {X : Nat → Prop} (h : DAt W d cs) (hf : Fr X W W') (hd : ¬ X d) : DAt W' d cs := ⟨Nat.lt_of_lt_of_le h.1 hf.size, fun i c hc j u hu => by
  rw [World.cell?_of_block (hf.block d h.1 hd)]; exact h.2 i c hc j u hu⟩
def cmpV2 (cb : Nat) : Value := .func (.func 137) #[] #[.pointer (some ⟨cb, 0, none⟩)]
section
variable {S : Nat} {s : ST} {C : CF} {n T : Nat} {L : List Ch} {ls : Nat → List Nat} {mk : Nat → Nat} {en : Nat → Option En} {xs xn g cb : Nat} {W W' : World}
set_option maxRecDepth 100000 in
set_option maxHeartbeats 4000000 in
theorem insertion_flat (h : CX S s C n L ls mk en xs xn g cb T W) (d cap k : Nat) (cs : List Cd) (hd : DAt W d cs) (hdm : d ≠ s.mb) (hk : k < C.np) (hl : cs.length ≤ 65536) (hflat : ∀ x ∈ cs, ∀ y ∈ cs, Flat k x y) : Calls Tryz.prog 191 #[.slice (some ⟨d, 0, none⟩) cs.length cap, .int .i64 0, .int .i64 (cs.length : Int), cmpV2 cb] W fun e w' => e = .returned (.tuple #[]) ∧ (∃ T', CX S s C n L ls mk en xs xn g cb T' w') ∧ Fr (fun j => j = s.mb) W w' := by
  have HC := Lib.hid h
  have HD := Lib.hid hd
  have HDM := Lib.hid hdm
  have HFL := Lib.hid hflat
  have HKK := Lib.hid hk
  have l3 : (cs.length : Int) ≤ 65536 := by omega
  clear h hd hdm hflat hk hl
  unfold cmpV2
  go_enter Tryz.func191, Tryz.ntmps191
  go_wp2
  go_loopw [8] (fun vi wr => ∃ i : Nat, vi = .int .i64 (i : Int) ∧ (1 : Int) ≤ i ∧ (i : Int) ≤ 65537 ∧ Hid ((∃ T', CX S s C n L ls mk en xs xn g cb T' wr) ∧ Fr (fun j => j = s.mb) W wr)) (fun vi _ => cs.length - (intOf vi).toNat)
  case atStart => exact ⟨1, rfl, by omega, by omega, ⟨T, HC.out⟩, Fr.refl _ _⟩
  case round =>
    obtain ⟨i, rfl, i1, p1, HI⟩ := hrel
    have i0 : (0 : Int) ≤ i := by omega
    have i3 : (0 : Int) < i := by omega
    by_cases hlt : (i : Int) < cs.length
    · have HMS : Hid (cs.length - (intOf (Value.int IntKind.i64 ((i : Int) + 1))).toNat < cs.length - (intOf (Value.int IntKind.i64 (i : Int))).toNat) := by
        show _ < _
        simp only [intOf]
        omega
      obtain ⟨p, hpi⟩ : ∃ p : Nat, (i : Int) - 1 = p := ⟨i - 1, by omega⟩
      have p0 : (0 : Int) ≤ p := by omega
      have hp1 : i < cs.length := by omega
      have hp0 : p < cs.length := by omega
      have p2 : (p : Int) ≤ 65536 := by omega
      have p3 : (p : Int) < cs.length := by omega
      have i2 : (i : Int) ≤ 65536 := by omega
      have gi : decide ((0 : Int) < i) = true := by simp; omega
      have gn : decide (0 < i) = true := by simp; omega
      have q1 : decide ((p : Int) < 0) = false := by simp
      have q2 : decide ((cs.length : Int) ≤ p) = false := by simp; omega
      have q3 : decide (cs.length ≤ p) = false := by simp; omega
      have q4 : decide ((i : Int) < 0) = false := by simp
      have q5 : decide ((cs.length : Int) ≤ i) = false := by simp; omega
      have q6 : decide (cs.length ≤ i) = false := by simp; omega
      have q7 : IntKind.i64.wrap ((i : Int) - 1) = p := by rw [hpi]; exact IntWalk.i64_in _ (by omega)
      have q8 : IntKind.i64.wrap (p : Int) = p := IntWalk.i64_in _ (by omega)
      obtain ⟨T', hcx⟩ := HI.out.1
      have HCX := Lib.hid hcx
      have HSO : Hid (∀ W2, CX S s C n L ls mk en xs xn g cb T' W2 → Calls Tryz.prog 137 #[.agg (cs[i]).cells, .agg (cs[p]).cells, .pointer (some ⟨cb, 0, none⟩)] W2 fun e w' => e = .returned (.int .i64 0) ∧ CX S s C n L ls mk en xs xn g cb n w' ∧ Fr (fun j => j = s.mb) W2 w') := fun W2 q => sortcl_eq q _ _ k HKK.out (HFL.out _ (List.getElem_mem hp1) _ (List.getElem_mem hp0))
      have HD1 : Hid (∀ W2, Fr (fun j => j = s.mb) wr W2 → (∀ j u, (cs[i]).cells[j]? = some u → W2.cell? ⟨d, i * 6 + j, none⟩ = some u) ∧ (∀ j u, (cs[p]).cells[j]? = some u → W2.cell? ⟨d, p * 6 + j, none⟩ = some u)) := fun W2 f => by
        have q := HD.out.fr (HI.out.2.trans f) HDM.out
        exact ⟨q.2 i _ (List.getElem?_eq_getElem hp1), q.2 p _ (List.getElem?_eq_getElem hp0)⟩
      generalize cs[i] = a at HSO HD1
      generalize cs[p] = b at HSO HD1
      obtain ⟨a1, a2, a3, a4, a5, a6⟩ := a
      obtain ⟨b1, b2, b3, b4, b5, b6⟩ := b
      unfold Cd.cells at HSO HD1
      have HK : Hid (∀ W2, Fr (fun j => j = s.mb) wr W2 → W2.cell? ⟨d, i * 6, none⟩ = some (.int .i64 (a1 : Int)) ∧ W2.cell? ⟨d, i * 6 + 1, none⟩ = some (.int .i64 a2) ∧ W2.cell? ⟨d, i * 6 + 2, none⟩ = some (.int .i64 a3) ∧ W2.cell? ⟨d, i * 6 + 3, none⟩ = some (.bool a4) ∧ W2.cell? ⟨d, i * 6 + 4, none⟩ = some (.int .i64 a5) ∧ W2.cell? ⟨d, i * 6 + 5, none⟩ = some (.int .i64 (a6 : Int)) ∧ W2.cell? ⟨d, p * 6, none⟩ = some (.int .i64 (b1 : Int)) ∧ W2.cell? ⟨d, p * 6 + 1, none⟩ = some (.int .i64 b2) ∧ W2.cell? ⟨d, p * 6 + 2, none⟩ = some (.int .i64 b3) ∧ W2.cell? ⟨d, p * 6 + 3, none⟩ = some (.bool b4) ∧ W2.cell? ⟨d, p * 6 + 4, none⟩ = some (.int .i64 b5) ∧ W2.cell? ⟨d, p * 6 + 5, none⟩ = some (.int .i64 (b6 : Int))) := fun W2 f => by
        obtain ⟨q1, q2⟩ := HD1.out W2 f
        exact ⟨q1 0 _ rfl, q1 1 _ rfl, q1 2 _ rfl, q1 3 _ rfl, q1 4 _ rfl, q1 5 _ rfl, q2 0 _ rfl, q2 1 _ rfl, q2 2 _ rfl, q2 3 _ rfl, q2 4 _ rfl, q2 5 _ rfl⟩
      clear hp1 hp0 hcx HD1
      go_wp2
      refine wp_loop_rounds 1 ?_
      rw [rounds_succ]
      go_wp2
      go_region_held3 (fun w' => w'.cell? ⟨d, i * 6, none⟩ = some (.int .i64 (a1 : Int)) ∧ w'.cell? ⟨d, i * 6 + 1, none⟩ = some (.int .i64 a2) ∧ w'.cell? ⟨d, i * 6 + 2, none⟩ = some (.int .i64 a3) ∧ w'.cell? ⟨d, i * 6 + 3, none⟩ = some (.bool a4) ∧ w'.cell? ⟨d, i * 6 + 4, none⟩ = some (.int .i64 a5) ∧ w'.cell? ⟨d, i * 6 + 5, none⟩ = some (.int .i64 (a6 : Int)) ∧ w'.cell? ⟨d, p * 6, none⟩ = some (.int .i64 (b1 : Int)) ∧ w'.cell? ⟨d, p * 6 + 1, none⟩ = some (.int .i64 b2) ∧ w'.cell? ⟨d, p * 6 + 2, none⟩ = some (.int .i64 b3) ∧ w'.cell? ⟨d, p * 6 + 3, none⟩ = some (.bool b4) ∧ w'.cell? ⟨d, p * 6 + 4, none⟩ = some (.int .i64 b5) ∧ w'.cell? ⟨d, p * 6 + 5, none⟩ = some (.int .i64 (b6 : Int)))
        (first | (exact HK.out _ (Fr.refl _ _)) | (exact HK.out _ (frD (Fr.refl _ _))) | (exact HK.out _ F2.out) | go_keep)
        (first
          | (go_at_call 137; refine (HSO.out (World.drew wr) (HCX.out.fr (Fr.drew _ _))).mono ?_; rintro r W2 ⟨rfl, hc2, f2⟩; have F2 : Hid (Fr (fun j => j = s.mb) wr W2) := (frD (Fr.refl _ _)).trans f2; have HC2 := Lib.hid hc2; clear f2 hc2))
      go_wp2
      go_roundw
      case rel => exact ⟨i + 1, by push_cast; rfl, by push_cast; omega, by push_cast; omega, ⟨n, HC2.out⟩, HI.out.2.trans F2.out⟩
      case measure => exact HMS.out
    · clear p1
      go_wp2
      go_end0
      exact ⟨rfl, HI.out⟩
set_option maxRecDepth 100000 in
theorem stable_flat (h : CX S s C n L ls mk en xs xn g cb T W) (d cap k : Nat) (cs : List Cd) (hd : DAt W d cs) (hdm : d ≠ s.mb) (hk : k < C.np) (hl : cs.length < 20) (hflat : ∀ x ∈ cs, ∀ y ∈ cs, Flat k x y) : Calls Tryz.prog 167 #[.slice (some ⟨d, 0, none⟩) cs.length cap, .int .i64 (cs.length : Int), cmpV2 cb] W fun e w' => e = .returned (.tuple #[]) ∧ (∃ T', CX S s C n L ls mk en xs xn g cb T' w') ∧ Fr (fun j => j = s.mb) W w' := by
  have HC := Lib.hid (insertion_flat h d cap k cs hd hdm hk (by omega) hflat)
  have m1 : ¬ (20 : Int) ≤ cs.length := by omega
  have m2 : ¬ (20 : Int) < cs.length := by omega
  have m0 : (0 : Int) ≤ cs.length := by omega
  clear h hd hdm hk hl hflat
  generalize cs.length = m at HC m1 m2 m0 ⊢
  unfold cmpV2 at HC ⊢
  go_enter Tryz.func167, Tryz.ntmps167
  go_wp2
  refine wp_loop_rounds 1 ?_
  rw [rounds_succ]
  go_wp2_with (go_at_call 191; refine HC.out.mono ?_; rintro e w1 ⟨rfl, hs1, hf1⟩; have HS1 := Lib.hid hs1; have HF1 := Lib.hid hf1; clear hs1 hf1)
  refine wp_loop_rounds 1 ?_
  rw [rounds_succ]
  go_wp2
  go_end0
  exact ⟨rfl, HS1.out, HF1.out⟩
theorem sortstable_flat (h : CX S s C n L ls mk en xs xn g cb T W) (d cap k : Nat) (cs : List Cd) (hd : DAt W d cs) (hdm : d ≠ s.mb) (hk : k < C.np) (hl : cs.length < 20) (hflat : ∀ x ∈ cs, ∀ y ∈ cs, Flat k x y) : Calls Tryz.prog 136 #[.slice (some ⟨d, 0, none⟩) cs.length cap, cmpV2 cb] W fun e w' => e = .returned (.tuple #[]) ∧ (∃ T', CX S s C n L ls mk en xs xn g cb T' w') ∧ Fr (fun j => j = s.mb) W w' := by
  have HC := Lib.hid (stable_flat h d cap k cs hd hdm hk hl hflat)
  clear h hd hdm hk hl hflat
  generalize cs.length = m at HC ⊢
  unfold cmpV2 at HC ⊢
  go_enter Tryz.func136, Tryz.ntmps136
  go_wp2_with (go_at_call 167; refine HC.out.mono ?_; rintro e w1 ⟨rfl, hs1, hf1⟩; have HS1 := Lib.hid hs1; have HF1 := Lib.hid hf1; clear hs1 hf1)
  go_end0
  exact ⟨rfl, HS1.out, HF1.out⟩
end
end Go.Proofs.YtjaaljcdaamcjaaGreat
