/- The contract of awake, the chapter's first example; a server that the call itself made. -/
import Derived.Test.YtibmmonboeifhaaUj
namespace Go.Proofs.Ytibmmonboeifhaa
open Go.RowKit
set_option linter.unusedVariables false

/-- A server that was made since w. -/
structure LS (w : World) (B G : Nat) (T : Int) (s : AQ) (W : World) : Prop where
  ss : SS B G T s W
  bel : Below w.heap.size w W
  b : w.heap.size ≤ B
  g : w.heap.size ≤ G
theorem LS.frame {w W W' : World} {B G : Nat} {T : Int} {s s' : AQ} (h : LS w B G T s W) (hs : SS B G T s' W') (hf : Fr (fun k => k = B ∨ k = G) W W') : LS w B G T s' W' :=
  ⟨hs, hf.below h.bel h.bel.size (fun i e => e.elim (fun e => by rw [e]; exact h.b) (fun e => by rw [e]; exact h.g)), h.b, h.g⟩
theorem LS.call {w W : World} {B G : Nat} {T : Int} {s s' : AQ} {v : Value} {f : FuncId} {args : Array Value} (h : LS w B G T s W) (hc : Calls Try.prog f args W (VS B G T v s' W)) : Calls Try.prog f args W fun e W' => e = .returned v ∧ LS w B G T s' W' :=
  hc.mono fun e W' ⟨he, hs, hf⟩ => ⟨he, h.frame hs hf⟩
theorem LS.more {w W W' : World} {B G : Nat} {T : Int} {s : AQ} (h : LS w B G T s W) (hb : Below W.heap.size W W') : LS w B G T s W' :=
  ⟨h.ss.below hb, h.bel.trans (hb.mono h.bel.size), h.b, h.g⟩
theorem new_ls (b p : Int) (n : Nat) (l : Int) (h : okP b p n l = true) {w W : World} (hb : Below w.heap.size w W) : Calls Try.prog 24 #[.agg (parA b p n l)] W fun e W' => ∃ B G, e = .returned (.tuple #[.pointer (some ⟨B, 0, none⟩), .int .i64 0]) ∧ LS w B G b (newA b p n l) W' :=
  (new_ok b p n l h W).mono fun e W' ⟨B, G, he, h1, h2, h3, h4⟩ => ⟨B, G, he, h3, hb.trans (h4.mono hb.size), Nat.le_trans hb.size h1, Nat.le_trans hb.size h2⟩

def s0 : AQ := newA 2 5 4 0
def s1 : AQ := runS 0 s0
def s2 : AQ := runS 1 s1
def s3 : AQ := runS 2 s2
theorem aw1 : runV 0 s0 = 0 := by decide +kernel
theorem aw2 : runV 1 s1 = 0 := by decide +kernel
theorem aw3 : runV 2 s2 = 18 := by decide +kernel
theorem aw4 : nextV s3 = (7, true) := by decide +kernel
theorem aw5 : budV 7 s3 = (2, 0) := by decide +kernel
set_option maxRecDepth 100000 in
set_option maxHeartbeats 1000000 in
theorem awake_any (w : World) : Calls Try.prog 27 #[] w fun e w' => e = .returned (.bool true) ∧ Below w.heap.size w w' := by
  have HN : Hid (Calls Try.prog 24 #[.agg #[.int .i64 2, .int .i64 5, .int .i64 4, .int .i64 0]] w fun e W' => ∃ B G, e = .returned (.tuple #[.pointer (some ⟨B, 0, none⟩), .int .i64 0]) ∧ LS w B G 2 s0 W') := new_ls 2 5 4 0 (by decide +kernel) (Below.refl _ _)
  have H1 : Hid (∀ W B G, LS w B G 2 s0 W → Calls Try.prog 36 #[.pointer (some ⟨B, 0, none⟩), .int .i64 0] W fun e W' => e = .returned (.int .i64 0) ∧ LS w B G 2 s1 W') := fun W B G h => by
    have := h.call (run_any h.ss 0); rw [aw1] at this; exact this
  have H2 : Hid (∀ W B G, LS w B G 2 s1 W → Calls Try.prog 36 #[.pointer (some ⟨B, 0, none⟩), .int .i64 1] W fun e W' => e = .returned (.int .i64 0) ∧ LS w B G 2 s2 W') := fun W B G h => by
    have := h.call (run_any h.ss 1); rw [aw2] at this; exact this
  have H3 : Hid (∀ W B G, LS w B G 2 s2 W → Calls Try.prog 36 #[.pointer (some ⟨B, 0, none⟩), .int .i64 2] W fun e W' => e = .returned (.int .i64 18) ∧ LS w B G 2 s3 W') := fun W B G h => by
    have := h.call (run_any h.ss 2); rw [aw3] at this; exact this
  have H4 : Hid (∀ W B G, LS w B G 2 s3 W → Calls Try.prog 34 #[.pointer (some ⟨B, 0, none⟩)] W fun e W' => e = .returned (.tuple #[.int .i64 7, .bool true]) ∧ LS w B G 2 s3 W') := fun W B G h => by
    have := h.call (next_any h.ss); rw [aw4] at this; exact this
  have H5 : Hid (∀ W B G, LS w B G 2 s3 W → Calls Try.prog 37 #[.pointer (some ⟨B, 0, none⟩), .int .i64 7] W fun e W' => e = .returned (.tuple #[.int .i64 2, .int .i64 0]) ∧ LS w B G 2 (budS 7 s3) W') := fun W B G h => by
    have := h.call (budget_any h.ss 7); rw [aw5] at this; exact this
  go_enter Try.func27, Try.ntmps27
  go_wp2_with (first
    | (go_at_call 24; refine HN.out.mono ?_; rintro e W1 ⟨B, G, rfl, a1⟩)
    | (go_at_call 36; refine (H1.out _ _ _ a1).mono ?_; rintro e W2 ⟨rfl, a2⟩; clear a1)
    | (go_at_call 36; refine (H2.out _ _ _ a2).mono ?_; rintro e W3 ⟨rfl, a3⟩; clear a2)
    | (go_at_call 36; refine (H3.out _ _ _ a3).mono ?_; rintro e W4 ⟨rfl, a4⟩; clear a3)
    | (go_at_call 34; refine (H4.out _ _ _ a4).mono ?_; rintro e W5 ⟨rfl, a5⟩; clear a4)
    | (go_at_call 37; refine (H5.out _ _ _ a5).mono ?_; rintro e W6 ⟨rfl, a6⟩; clear a5))
  go_ret
  exact ⟨rfl, a6.bel⟩
end Go.Proofs.Ytibmmonboeifhaa
