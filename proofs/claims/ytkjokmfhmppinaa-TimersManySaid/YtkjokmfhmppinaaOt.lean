/- Timers: Expire where nothing fires. -/
import Derived.Test.YtkjokmfhmppinaaOs
namespace Go.Proofs.Ytkjokmfhmppinaa
open Go.RowKit Go.Maps Go.Shelf
set_option linter.unusedVariables false

/-- The two boxes of Expire's parameters. -/
structure Bx (W : World) (B : Nat) (now : Int) (p : Nat) : Prop where
  a : RowAt W p 24 #[.pointer (some ⟨B, 0, none⟩)]
  n : RowAt W (p + 1) 2 #[.int .i64 now]
theorem Bx.new (W : World) (B : Nat) (now : Int) : Bx ((W.alloc (.cells #[.pointer (some ⟨B, 0, none⟩)] 24)).alloc (.cells #[.int .i64 now] 2)) B now W.heap.size := by
  refine ⟨(RowAt.new W _ _).fr (Fr.alloc No _ _) id, ?_⟩
  have := RowAt.new (W.alloc (.cells #[.pointer (some ⟨B, 0, none⟩)] 24)) 2 #[.int .i64 now]
  rw [show (W.alloc (.cells #[.pointer (some ⟨B, 0, none⟩)] 24)).heap.size = W.heap.size + 1 from by simp] at this
  exact this
theorem Bx.fr {W W' : World} {B p : Nat} {now : Int} {S : Nat → Prop} (h : Bx W B now p) (hf : Fr S W W') (h1 : ¬ S p) (h2 : ¬ S (p + 1)) : Bx W' B now p := ⟨h.a.fr hf h1, h.n.fr hf h2⟩
set_option maxRecDepth 100000 in
theorem expire_nilp (now : Int) (W : World) : Calls Try.prog 23 #[.pointer none, .int .i64 now] W fun e w' => e = .returned (.tuple #[.slice none 0 0, .int .i64 35]) ∧ Fr No W w' := by
  have HF : Hid (Fr No W ((W.alloc (.cells #[.pointer none] 24)).alloc (.cells #[.int .i64 now] 2))) := (Fr.alloc _ _ _).trans (Fr.alloc _ _ _)
  go_enter Try.func23, Try.ntmps23
  go_wp2_with (go_at_call 34; refine (ismade_nil _).mono ?_; rintro e w2 ⟨rfl, f2⟩; subst f2)
  go_ret2
  exact ⟨rfl, HF.out⟩
set_option maxRecDepth 100000 in
set_option maxHeartbeats 1000000 in
theorem expire_range {W : World} {B b : Nat} {l : TS} {c : Int} (h : TQ W B b l c) (now : Int) (hn : isT now = false) : Calls Try.prog 23 #[.pointer (some ⟨B, 0, none⟩), .int .i64 now] W fun e w' => e = .returned (.tuple #[.slice none 0 0, .int .i64 34]) ∧ Fr No W w' := by
  have HF : Hid (Fr No W ((W.alloc (.cells #[.pointer (some ⟨B, 0, none⟩)] 24)).alloc (.cells #[.int .i64 now] 2))) := (Fr.alloc _ _ _).trans (Fr.alloc _ _ _)
  have HB := Lib.hid (Bx.new W B now)
  have HS := Lib.hid (h.no HF.out)
  have HT := Lib.hid (fun w => istime_any now w)
  rw [hn] at HT
  clear h hn
  go_enter Try.func23, Try.ntmps23
  go_upto_region 1 with (fail)
  generalize World.alloc (World.alloc W _) _ = W1 at HF HB HS ⊢
  generalize W.heap.size = p at HB ⊢
  have c0 : W1.cell? ⟨p, 0, none⟩ = some (.pointer (some ⟨B, 0, none⟩)) := HB.out.a.cell 0
  have c1 : W1.cell? ⟨p + 1, 0, none⟩ = some (.int .i64 now) := HB.out.n.cell 0
  go_wp2_with (first
    | (go_at_call 34; refine (ismade_ok HS.out).mono ?_; rintro e w2 ⟨rfl, f2⟩; subst f2)
    | (go_at_call 45; refine (HT.out _).mono ?_; rintro e w5 ⟨rfl, f5⟩; subst f5))
  go_ret2
  exact ⟨rfl, HF.out⟩
set_option maxRecDepth 100000 in
set_option maxHeartbeats 1000000 in
theorem expire_order {W : World} {B b : Nat} {l : TS} {c : Int} (h : TQ W B b l c) (now : Int) (hn : isT now = true) (hc : now < c) : Calls Try.prog 23 #[.pointer (some ⟨B, 0, none⟩), .int .i64 now] W fun e w' => e = .returned (.tuple #[.slice none 0 0, .int .i64 30]) ∧ Fr No W w' := by
  have HF : Hid (Fr No W ((W.alloc (.cells #[.pointer (some ⟨B, 0, none⟩)] 24)).alloc (.cells #[.int .i64 now] 2))) := (Fr.alloc _ _ _).trans (Fr.alloc _ _ _)
  have HB := Lib.hid (Bx.new W B now)
  have HS := Lib.hid (h.no HF.out)
  have HT := Lib.hid (fun w => istime_any now w)
  rw [hn] at HT
  have hd : decide (now < c) = true := by simpa using hc
  clear h hn
  go_enter Try.func23, Try.ntmps23
  go_upto_region 1 with (fail)
  generalize World.alloc (World.alloc W _) _ = W1 at HF HB HS ⊢
  generalize W.heap.size = p at HB ⊢
  have c0 : W1.cell? ⟨p, 0, none⟩ = some (.pointer (some ⟨B, 0, none⟩)) := HB.out.a.cell 0
  have c1 : W1.cell? ⟨p + 1, 0, none⟩ = some (.int .i64 now) := HB.out.n.cell 0
  have c2 : W1.cell? ⟨B, 1, none⟩ = some (.int .i64 c) := HS.out.row.cell 1
  go_upto_region 5 with (first
    | (go_at_call 34; refine (ismade_ok HS.out).mono ?_; rintro e w2 ⟨rfl, f2⟩; subst f2)
    | (go_at_call 45; refine (HT.out _).mono ?_; rintro e w5 ⟨rfl, f5⟩; subst f5))
  go_region_held3 (fun w' => w'.cell? ⟨p, 0, none⟩ = some (.pointer (some ⟨B, 0, none⟩)) ∧ w'.cell? ⟨p + 1, 0, none⟩ = some (.int .i64 now) ∧ w'.cell? ⟨B, 1, none⟩ = some (.int .i64 c))
    (exact ⟨c0, c1, c2⟩) (fail)
  go_wp2
  go_ret2
  exact ⟨rfl, HF.out.trans (Fr.drew _ _)⟩
/-- The same set at another time. -/
theorem TQ.clock {W : World} {B b : Nat} {l : TS} {c : Int} (h : TQ W B b l c) (n : Int) : TQ (W.setCell ⟨B, 1, none⟩ (.int .i64 n)) B b l n :=
  ⟨h.row.set 1 _, h.map.fr (Fr.set (S := fun k => k = B) _ _ _ _ rfl) h.ne, h.sorted, h.len, h.key⟩
set_option maxRecDepth 100000 in
set_option maxHeartbeats 2000000 in
theorem expire_quiet {W : World} {B b : Nat} {l : TS} {c : Int} (h : TQ W B b l c) (hsp : SpI l) (now : Int) (hn : isT now = true) (hc : c ≤ now) (hq : nx l = none ∨ now < nxV l) : Calls Try.prog 23 #[.pointer (some ⟨B, 0, none⟩), .int .i64 now] W fun e w' => e = .returned (.tuple #[.slice none 0 0, .int .i64 0]) ∧ TQ w' B b l now ∧ Fr (fun k => k = B) W w' := by
  have HF : Hid (Fr No W ((W.alloc (.cells #[.pointer (some ⟨B, 0, none⟩)] 24)).alloc (.cells #[.int .i64 now] 2))) := (Fr.alloc _ _ _).trans (Fr.alloc _ _ _)
  have HB := Lib.hid (Bx.new W B now)
  have HS := Lib.hid (h.no HF.out)
  have HBL := Lib.hid h.row.lt
  have HT := Lib.hid (fun w => istime_any now w)
  rw [hn] at HT
  have HSP := Lib.hid hsp
  have HQ := Lib.hid hq
  have hd : decide (now < c) = false := by simp; omega
  clear h hn hsp hq hc
  go_enter Try.func23, Try.ntmps23
  go_upto_region 1 with (fail)
  generalize World.alloc (World.alloc W _) _ = W1 at HF HB HS ⊢
  generalize hp : W.heap.size = p at HB HBL ⊢
  have HP := Lib.hid hp
  clear hp
  have c0 : W1.cell? ⟨p, 0, none⟩ = some (.pointer (some ⟨B, 0, none⟩)) := HB.out.a.cell 0
  have c1 : W1.cell? ⟨p + 1, 0, none⟩ = some (.int .i64 now) := HB.out.n.cell 0
  have c2 : W1.cell? ⟨B, 1, none⟩ = some (.int .i64 c) := HS.out.row.cell 1
  go_upto_region 5 with (first
    | (go_at_call 34; refine (ismade_ok HS.out).mono ?_; rintro e w2 ⟨rfl, f2⟩; subst f2)
    | (go_at_call 45; refine (HT.out _).mono ?_; rintro e w5 ⟨rfl, f5⟩; subst f5))
  go_region_held3 (fun w' => w'.cell? ⟨p, 0, none⟩ = some (.pointer (some ⟨B, 0, none⟩)) ∧ w'.cell? ⟨p + 1, 0, none⟩ = some (.int .i64 now) ∧ w'.cell? ⟨B, 1, none⟩ = some (.int .i64 c))
    (exact ⟨c0, c1, c2⟩) (fail)
  clear c0 c1 c2
  have c0 : W1.drew.cell? ⟨p, 0, none⟩ = some (.pointer (some ⟨B, 0, none⟩)) := HB.out.a.cell 0
  have c1 : W1.drew.cell? ⟨p + 1, 0, none⟩ = some (.int .i64 now) := HB.out.n.cell 0
  have c2 : W1.drew.cell? ⟨B, 1, none⟩ = some (.int .i64 c) := HS.out.row.cell 1
  have c3 : W1.drew.frozen? ⟨B, 1, none⟩ = false := HS.out.row.frozen 1
  go_upto_region 8 with (fail)
  clear c0 c1 c2 c3
  have HS2 : Hid (TQ (W1.setCell ⟨B, 1, none⟩ (.int .i64 now)).drew B b l now) := (HS.out.clock now).no (Fr.drew No _)
  have HF2 : Hid (Fr (fun k => k = B) W (W1.setCell ⟨B, 1, none⟩ (.int .i64 now)).drew) := ((HF.out.any.trans (Fr.set (S := fun k => k = B) _ _ _ _ rfl)).trans (Fr.drew _ _))
  have HB2 : Hid (Bx (W1.setCell ⟨B, 1, none⟩ (.int .i64 now)).drew B now p) := (HB.out.fr (Fr.set (S := fun k => k = B) _ _ _ _ rfl) (by have := HBL.out; omega) (by have := HBL.out; omega)).fr (Fr.drew No _) id id
  generalize World.drew (World.setCell W1 _ _) = W2 at HS2 HF2 HB2 ⊢
  have c0 : W2.cell? ⟨p, 0, none⟩ = some (.pointer (some ⟨B, 0, none⟩)) := HB2.out.a.cell 0
  have HN := Lib.hid (next_ok HS2.out HSP.out)
  rcases HQ.out with hq | hq
  · have hv : (nx l).isSome = false := by rw [hq]; rfl
    rw [hv] at HN
    clear hq hv
    generalize nxV l = v at HN
    go_wp2_with (go_at_call 13; refine HN.out.mono ?_; rintro e w3 ⟨rfl, f3⟩; have F3 := Lib.hid f3; clear f3)
    go_ret2
    exact ⟨rfl, HS2.out.no F3.out, HF2.out.trans F3.out.any⟩
  · cases hs : (nx l).isSome
    · rw [hs] at HN
      clear hq hs
      generalize nxV l = v at HN
      go_wp2_with (go_at_call 13; refine HN.out.mono ?_; rintro e w3 ⟨rfl, f3⟩; have F3 := Lib.hid f3; clear f3)
      go_ret2
      exact ⟨rfl, HS2.out.no F3.out, HF2.out.trans F3.out.any⟩
    · rw [hs] at HN
      clear hs
      generalize nxV l = v at HN hq
      have hd2 : decide (now < v) = true := by simpa using hq
      have HK : Hid (∀ w, Fr No W2 w → w.cell? ⟨p + 1, 0, none⟩ = some (.int .i64 now)) := fun w f => (HB2.out.fr f id id).n.cell 0
      go_wp2_with (go_at_call 13; refine HN.out.mono ?_; rintro e w3 ⟨rfl, f3⟩; have F3 := Lib.hid f3; clear f3; have c1 := HK.out _ F3.out)
      go_ret2
      exact ⟨rfl, HS2.out.no F3.out, HF2.out.trans F3.out.any⟩
end Go.Proofs.Ytkjokmfhmppinaa
