/- SporadicAsks: the two servers. -/
import Derived.Test.YtibmmonboeifhabUo
namespace Go.Proofs.Ytibmmonboeifhab
open Go.RowKit
set_option linter.unusedVariables false

/-- Two servers, apart. -/
structure TW (W0 : World) (B G B2 G2 : Nat) (T : Int) (s t : AQ) (W : World) : Prop where
  a : LS W0 B G T s W
  b : LS W0 B2 G2 T t W
  n1 : B ≠ B2
  n2 : B ≠ G2
  n3 : G ≠ B2
  n4 : G ≠ G2
theorem TW.left {W0 W W' : World} {B G B2 G2 : Nat} {T : Int} {s t s' : AQ} (h : TW W0 B G B2 G2 T s t W) (hs : SS B G T s' W') (hf : Fr (fun k => k = B ∨ k = G) W W') : TW W0 B G B2 G2 T s' t W' := by
  have k := h.a.frame hs hf
  exact ⟨k, ⟨h.b.ss.keep hf (fun e => e.elim (Ne.symm h.n1) (Ne.symm h.n3)) (fun e => e.elim (Ne.symm h.n2) (Ne.symm h.n4)), k.bel, h.b.b, h.b.g⟩, h.n1, h.n2, h.n3, h.n4⟩
theorem TW.right {W0 W W' : World} {B G B2 G2 : Nat} {T : Int} {s t t' : AQ} (h : TW W0 B G B2 G2 T s t W) (hs : SS B2 G2 T t' W') (hf : Fr (fun k => k = B2 ∨ k = G2) W W') : TW W0 B G B2 G2 T s t' W' := by
  have k := h.b.frame hs hf
  exact ⟨⟨h.a.ss.keep hf (fun e => e.elim h.n1 h.n2) (fun e => e.elim h.n3 h.n4), k.bel, h.a.b, h.a.g⟩, k, h.n1, h.n2, h.n3, h.n4⟩
/-- What holds before the runs of a round: the second server may have been asked more. -/
structure AskI (W0 : World) (B G B2 G2 : Nat) (T : Int) (i : Nat) (s t : AQ) (now : Int) (W : World) : Prop where
  tw : TW W0 B G B2 G2 T s t W
  gs : GI T s now
  gt : GI T t now
  eq : ∀ y, now ≤ y → tellA y t = tellA y s
  le : now ≤ 256 * i
theorem AskI.ask {W0 W : World} {B G B2 G2 i : Nat} {T now : Int} {s t : AQ} (h : AskI W0 B G B2 G2 T i s t now W) (hi : i ≤ 200) : Calls Try.prog 7 #[.pointer (some ⟨B2, 0, none⟩), .int .i64 now] W fun e W' => ∃ z, e = .returned (.tuple #[.int .i64 z, .int .i64 0]) ∧ ∃ t', AskI W0 B G B2 G2 T i s t' now W' := by
  have hl := h.le
  obtain ⟨e1, e2⟩ := h.gt.bud (by omega)
  have := budget_any h.tw.b.ss now
  rw [e1, e2] at this
  exact this.mono fun e W' ⟨he, hs, hf⟩ => ⟨_, he, _, h.tw.right hs hf, h.gs, h.gt.tell, fun y hy => (tell_tell hy t).trans (h.eq y hy), h.le⟩
theorem AskI.run {W0 W : World} {B G B2 G2 i : Nat} {T now : Int} {s t : AQ} (h : AskI W0 B G B2 G2 T i s t now W) (hi : i ≤ 200) : ∃ (v : Int) (s' : AQ),
    Hid (GI T s' (now + 1)) ∧
    Hid (Calls Try.prog 8 #[.pointer (some ⟨B, 0, none⟩), .int .i64 now] W fun e W' => e = .returned (.int .i64 v) ∧ TW W0 B G B2 G2 T s' t W') ∧
    Hid (∀ W, TW W0 B G B2 G2 T s' t W → Calls Try.prog 8 #[.pointer (some ⟨B2, 0, none⟩), .int .i64 now] W fun e W' => e = .returned (.int .i64 v) ∧ TW W0 B G B2 G2 T s' s' W') := by
  have hl := h.le
  have e : tellA now t = tellA now s := h.eq now (Int.le_refl _)
  have r1 := h.gs.runE (by omega)
  have r2 := h.gt.runE (by omega)
  have ev : runV now t = runV now s := by rw [runV, runV, r1, r2, e]
  have es : runS now t = runS now s := by rw [runS, runS, if_neg (show ¬ runEA t now ≠ 0 by rw [r2]; simp), if_neg (show ¬ runEA s now ≠ 0 by rw [r1]; simp), e]
  refine ⟨runV now s, runS now s, h.gs.ranned (by omega), (run_any h.tw.a.ss now).mono fun e W' ⟨he, hs, hf⟩ => ⟨he, h.tw.left hs hf⟩, fun W2 h2 => ?_⟩
  have := run_any h2.b.ss now
  rw [ev, es] at this
  exact this.mono fun e W' ⟨he, hs, hf⟩ => ⟨he, h2.right hs hf⟩
theorem ask_pri {W0 W : World} {B G B2 G2 i : Nat} {T now : Int} {s : AQ} (h : TW W0 B G B2 G2 T s s W) (hg : GI T s (now + 1)) (hn : now ≤ 51200) : Calls Try.prog 9 #[.pointer (some ⟨B2, 0, none⟩), .int .i64 (now + 1), .int .i64 10] W fun e W' => ∃ y z, e = .returned (.tuple #[.int .i64 y, .int .i64 z]) ∧ ∃ t', TW W0 B G B2 G2 T s t' W' ∧ GI T t' (now + 1) ∧ ∀ y, now + 1 ≤ y → tellA y t' = tellA y s := by
  have e1 : priS (now + 1) 10 s = tellA (now + 1) s := by rw [priS, if_pos (by decide)]; exact (hg.bud (by omega)).2
  have := pri_any h.b.ss (now + 1) 10
  rw [e1] at this
  exact this.mono fun e W' ⟨he, hs, hf⟩ => ⟨_, _, he, _, h.right hs hf, hg.tell, fun y hy => tell_tell hy s⟩
theorem AskI.next {W0 W : World} {B G B2 G2 i : Nat} {T now z : Int} {s t : AQ} (h : TW W0 B G B2 G2 T s t W) (h1 : GI T s (now + 1)) (h2 : GI T t (now + 1)) (h3 : ∀ y, now + 1 ≤ y → tellA y t = tellA y s) (hl : now ≤ 256 * i) (z0 : 0 ≤ z) (z1 : z < 256) : AskI W0 B G B2 G2 T (i + 1) s t (now + (1 + z)) W :=
  ⟨h, h1.later (by omega), h2.later (by omega), fun y hy => h3 y (by omega), by omega⟩
end Go.Proofs.Ytibmmonboeifhab
