/- The statement's step. -/
import Derived.Test.YtibmmonboeifhaaWk
import Derived.Test.YtibmmonboeifhaaWj
namespace Go.Proofs.Ytibmmonboeifhaa
open Go.RowKit
set_option linter.unusedVariables false

def actS (d gp raw nm : Int) : Array Value := #[.int .u8 d, .int .u8 gp, .int .i64 raw, .int .i64 nm]
/-- Both servers hold s. -/
structure Two (B G lo R : Nat) (T : Int) (s : AQ) (W : World) : Prop where
  a : SS B G T s W
  b : RS lo R T T s W
  lb : B < lo
  lg : G < lo
def TwoE (B G lo R : Nat) (T : Int) (W : World) (e : Ending) (w' : World) : Prop := e = .returned (.bool true) ∧ ∃ s', Two B G lo R T s' w' ∧ Fr (fun k => k = B ∨ k = G ∨ lo ≤ k) W w'
theorem Two.rest {B G lo R : Nat} {T : Int} {s : AQ} {W W' : World} (h : Two B G lo R T s W) (hf : Fr (fun _ => False) W W') : Two B G lo R T s W' :=
  ⟨h.a.keep hf id id, h.b.keep hf (fun _ e => e.elim), h.lb, h.lg⟩
/-- The implementation moved, then the reference. -/
theorem Two.both {B G lo R : Nat} {T : Int} {s s' : AQ} {W W1 W2 : World} (h : Two B G lo R T s W) (h1 : SS B G T s' W1) (f1 : Fr (fun k => k = B ∨ k = G) W W1) (h2 : RS lo R T T s' W2) (f2 : Fr (fun k => lo ≤ k) W1 W2) : Two B G lo R T s' W2 ∧ Fr (fun k => k = B ∨ k = G ∨ lo ≤ k) W W2 :=
  ⟨⟨h1.keep f2 (fun e => by have := h.lb; omega) (fun e => by have := h.lg; omega), h2, h.lb, h.lg⟩, (f1.mono (T := fun k => k = B ∨ k = G ∨ lo ≤ k) (fun k _ e => e.elim .inl (fun e => .inr (.inl e)))).trans (f2.mono (fun k _ e => .inr (.inr e)))⟩
theorem Two.ref {B G lo R : Nat} {T : Int} {s : AQ} {W W1 : World} (h : Two B G lo R T s W) (f1 : Fr (fun k => k = B ∨ k = G) W W1) : RS lo R T T s W1 :=
  h.b.keep f1 (fun k e => by have := h.lb; have := h.lg; rcases e with e | e <;> omega)

set_option maxRecDepth 100000 in
set_option maxHeartbeats 4000000 in
theorem step_any {W : World} {B G lo R : Nat} {T : Int} {s : AQ} (h : Two B G lo R T s W) (d gp raw nm now : Int) (hd0 : 0 ≤ d) (hd1 : d < 256) : Calls Try.prog 30 #[.pointer (some ⟨B, 0, none⟩), .pointer (some ⟨R, 0, none⟩), .agg (actS d gp raw nm), .int .i64 now] W (TwoE B G lo R T W) := by
  have HR := Lib.hid (RowAt.new W 58 (actS d gp raw nm))
  have HF : Hid (Fr (fun _ => False) W (W.alloc (.cells (actS d gp raw nm) 58))) := Fr.alloc _ _ _
  have HH := Lib.hid (h.rest HF.out)
  have hx : B ≠ W.heap.size := Nat.ne_of_lt h.a.lt.1
  have hg : G ≠ W.heap.size := Nat.ne_of_lt h.a.lt.2.1
  have HX : Hid (B ≠ W.heap.size ∧ G ≠ W.heap.size) := ⟨hx, hg⟩
  clear h hx hg
  go_enter Try.func30, Try.ntmps30
  go_upto_region 1 with (fail)
  generalize World.alloc W _ = W1 at HR HF HH ⊢
  generalize W.heap.size = x at HR HX ⊢
  have c0 : W1.cell? ⟨x, 0, none⟩ = some (.int .u8 d) := HR.out.cell 0
  by_cases h2 : d % 4 = 2
  · have HA := Lib.hid (budget_any HH.out.a now)
    have HB : Hid (∀ W2, Fr (fun k => k = B ∨ k = G) W1 W2 → Calls Try.prog 63 #[.pointer (some ⟨R, 0, none⟩), .int .i64 now] W2 (VR lo R T T (.tuple #[.int .i64 (budV now s).1, .int .i64 (budV now s).2]) (budS now s) W2)) := fun W2 f => rbudget_any (HH.out.ref f) now
    generalize budV now s = v at HA HB
    generalize budS now s = s1 at HA HB
    have hs1 : (v.1 == v.1) = true := by simp
    have hs2 : (v.2 == v.2) = true := by simp
    go_wp2_with (first
      | (go_at_call 37; refine HA.out.mono ?_; rintro e W2 ⟨rfl, s2, g2⟩; have S2 := Lib.hid s2; have G2 := Lib.hid g2; clear s2 g2 c0)
      | (go_at_call 63; refine (HB.out _ G2.out).mono ?_; rintro e W3 ⟨rfl, s3, g3⟩; have S3 := Lib.hid s3; have G3 := Lib.hid g3; clear s3 g3))
    go_ret
    obtain ⟨t1, t2⟩ := HH.out.both S2.out G2.out S3.out G3.out
    exact ⟨rfl, s1, t1, (HF.out.mono (fun _ _ e => e.elim)).trans t2⟩
  have n2' : (d % 4 == 2) = false := by simpa using h2
  by_cases h3 : d % 4 = 3
  · have c3 : W1.cell? ⟨x, 3, none⟩ = some (.int .i64 nm) := HR.out.cell 3
    clear h2 n2'
    have HA := Lib.hid (pri_any HH.out.a now nm)
    have HB : Hid (∀ W2, Fr (fun k => k = B ∨ k = G) W1 W2 → Calls Try.prog 65 #[.pointer (some ⟨R, 0, none⟩), .int .i64 now, .int .i64 nm] W2 (VR lo R T T (.tuple #[.int .i64 (priV now nm s).1, .int .i64 (priV now nm s).2]) (priS now nm s) W2)) := fun W2 f => rpri_any (HH.out.ref f) now nm
    have HC3 : Hid (∀ W2, Fr (fun k => k = B ∨ k = G) W1 W2 → W2.cell? ⟨x, 3, none⟩ = some (.int .i64 nm)) := fun W2 f => (HR.out.fr f (fun e => by have := HX.out; rcases e with e | e <;> omega)).cell 3
    generalize priV now nm s = v at HA HB
    generalize priS now nm s = s1 at HA HB
    have hs1 : (v.1 == v.1) = true := by simp
    have hs2 : (v.2 == v.2) = true := by simp
    go_wp2_with (first
      | (go_at_call 64; refine HA.out.mono ?_; rintro e W2 ⟨rfl, s2, g2⟩; have S2 := Lib.hid s2; have G2 := Lib.hid g2; have d3 := HC3.out _ g2; clear s2 g2 c0 c3)
      | (go_at_call 65; refine (HB.out _ G2.out).mono ?_; rintro e W3 ⟨rfl, s3, g3⟩; have S3 := Lib.hid s3; have G3 := Lib.hid g3; clear s3 g3 d3))
    go_ret
    obtain ⟨t1, t2⟩ := HH.out.both S2.out G2.out S3.out G3.out
    exact ⟨rfl, s1, t1, (HF.out.mono (fun _ _ e => e.elim)).trans t2⟩
  · have n3' : (d % 4 == 3) = false := by simpa using h3
    clear h2 h3
    have HA := Lib.hid (run_any HH.out.a now)
    have HB : Hid (∀ W2, Fr (fun k => k = B ∨ k = G) W1 W2 → Calls Try.prog 66 #[.pointer (some ⟨R, 0, none⟩), .int .i64 now] W2 (VR lo R T T (.int .i64 (runV now s)) (runS now s) W2)) := fun W2 f => rrun_any (HH.out.ref f) now
    generalize runV now s = v at HA HB
    generalize runS now s = s1 at HA HB
    have hs1 : (v == v) = true := by simp
    go_upto_region 10 with (fail)
    clear c0 n2' n3'
    go_wp2_with (first
      | (go_at_call 36; refine HA.out.mono ?_; rintro e W2 ⟨rfl, s2, g2⟩; have S2 := Lib.hid s2; have G2 := Lib.hid g2; clear s2 g2)
      | (go_at_call 66; refine (HB.out _ G2.out).mono ?_; rintro e W3 ⟨rfl, s3, g3⟩; have S3 := Lib.hid s3; have G3 := Lib.hid g3; clear s3 g3))
    go_ret
    obtain ⟨t1, t2⟩ := HH.out.both S2.out G2.out S3.out G3.out
    exact ⟨rfl, s1, t1, (HF.out.mono (fun _ _ e => e.elim)).trans t2⟩
end Go.Proofs.Ytibmmonboeifhaa
