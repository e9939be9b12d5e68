/- SporadicPlays: the walk's beginning; on parameters that aren't valid. -/
import Derived.Test.YtibmmonboeifhaaWl
import Derived.Test.YtibmmonboeifhaaUo
import Derived.BigQuiet
import Derived.Lib.QuietBelow
import Derived.Deep.MidRow
namespace Go.Proofs.Ytibmmonboeifhaa
open Go.RowKit
set_option linter.unusedVariables false

structure ActS where
  d : Int
  gp : Int
  raw : Int
  nm : Int
def actL (x : ActS) : List Value := [.int .u8 x.d, .int .u8 x.gp, .int .i64 x.raw, .int .i64 x.nm]
def ActsSAt (w : World) (b off : Nat) (A : List ActS) : Prop := b < w.heap.size ∧ ∀ i x, A[i]? = some x → w.rangeAt b (off + i * 4) (actL x)
def ActsS (w : World) (a : Option Addr) (A : List ActS) : Prop := (∀ x ∈ A, (0 ≤ x.d ∧ x.d < 256) ∧ 0 ≤ x.gp ∧ x.gp < 256) ∧ (A = [] ∨ ∃ b off, a = some ⟨b, off, none⟩ ∧ ActsSAt w b off A)
theorem ActsS.get {w : World} {a : Option Addr} {A : List ActS} {i : Nat} (h : ActsS w a A) (hi : i < A.length) : ∃ b off x, a = some ⟨b, off, none⟩ ∧ (∀ w2, Below w.heap.size w w2 → w2.rangeAt b (off + i * 4) (actL x)) ∧ (0 ≤ x.d ∧ x.d < 256) ∧ 0 ≤ x.gp ∧ x.gp < 256 := by
  have hx : A[i]? = some A[i] := List.getElem?_eq_getElem hi
  have hm := h.1 _ (List.getElem_mem hi)
  rcases h.2 with h' | ⟨b, off, rfl, hlt, h'⟩
  · rw [h'] at hi; cases hi
  · exact ⟨b, off, _, rfl, fun w2 hb j v hv => by rw [hb.cell (p := ⟨b, _, none⟩) hlt]; exact h' i _ hx j v hv, hm⟩
theorem fr_of_below {A B : World} (h : Below A.heap.size A B) : Fr (fun _ => False) A B := ⟨h.os, h.tape, h.output, h.size, fun k hk _ => h.block k hk⟩
theorem quiet_mid {P : Program} {C : World → Prop} {o : Oper} {a : Act} {K : Act → Prop} (ty : TypeId) (x : Operand) (ho : o.op = .load ty x)
    (b off : Nat) (hx : a.eval x = .pointer (some ⟨b, off, none⟩)) (cs : List Value) (d : TypeDesc) (hS : ∀ w, C w → w.rangeAt b off cs)
    (hu : P.underlying ty = some d) (hd : d.isRow = true) (hi : (P.info? ty).map (·.size) = some cs.length) (hk : K (a.put o.dst (.agg cs.toArray))) : o.quiet P a C K :=
  ⟨_, fun w hw => by
    unfold Oper.quietAt execOp
    simp only [ho, hx, Instr.loadAt, Instr.sureAddr, Sem.run_bind, Sem.run_pure, Result.andThen_ok, run_loadVar_mid w b off ty cs d (hS w hw) hu hd hi]
    exact ⟨rfl, rfl⟩, hk⟩

set_option maxRecDepth 100000 in
set_option maxHeartbeats 1000000 in
theorem step_nil {W : World} (d gp raw nm now : Int) (hd0 : 0 ≤ d) (hd1 : d < 256) : Calls Try.prog 30 #[.pointer none, .pointer none, .agg (actS d gp raw nm), .int .i64 now] W fun e w' => e = .returned (.bool true) ∧ Below W.heap.size W w' := by
  have HR := Lib.hid (RowAt.new W 58 (actS d gp raw nm))
  have HF : Hid (Below W.heap.size W (W.alloc (.cells (actS d gp raw nm) 58))) := (Below.refl _ _).alloc (Nat.le_refl _) _
  go_enter Try.func30, Try.ntmps30
  go_upto_region 1 with (fail)
  generalize World.alloc W _ = W1 at HR HF ⊢
  generalize W.heap.size = x at HR ⊢
  have c0 : W1.cell? ⟨x, 0, none⟩ = some (.int .u8 d) := HR.out.cell 0
  have c3 : W1.cell? ⟨x, 3, none⟩ = some (.int .i64 nm) := HR.out.cell 3
  by_cases h2 : d % 4 = 2
  · go_wp2_with (first
      | (go_at_call 37; refine (budget_nil _ _).mono ?_; rintro e W2 ⟨rfl, rfl⟩)
      | (go_at_call 63; refine (rbudget_nil _ _).mono ?_; rintro e W2 ⟨rfl, rfl⟩))
    go_ret
    exact ⟨rfl, HF.out⟩
  have n2' : (d % 4 == 2) = false := by simpa using h2
  by_cases h3 : d % 4 = 3
  · clear h2 n2'
    go_wp2_with (first
      | (go_at_call 64; refine (pri_nil _ _ _).mono ?_; rintro e W2 ⟨rfl, rfl⟩)
      | (go_at_call 65; refine (rpri_nil _ _ _).mono ?_; rintro e W2 ⟨rfl, rfl⟩))
    go_ret
    exact ⟨rfl, HF.out⟩
  · have n3' : (d % 4 == 3) = false := by simpa using h3
    clear h2 h3
    go_wp2_with (first
      | (go_at_call 36; refine (run_nil _ _).mono ?_; rintro e W2 ⟨rfl, rfl⟩)
      | (go_at_call 66; refine (rrun_nil _ _).mono ?_; rintro e W2 ⟨rfl, rfl⟩))
    go_ret
    exact ⟨rfl, HF.out⟩
set_option maxRecDepth 100000 in
theorem same_nil (W : World) : Calls Try.prog 31 #[.slice none 0 0, .slice none 0 0] W fun e w' => e = .returned (.bool true) ∧ W = w' := by
  go_enter Try.func31, Try.ntmps31
  go_wp2
  go_loopw [5] (fun vi wr => vi = .int .i64 0 ∧ wr = W) (fun _ _ => 0)
  case atStart => exact ⟨rfl, rfl⟩
  case round =>
    obtain ⟨rfl, rfl⟩ := hrel
    go_wp2
    go_ret
    exact ⟨rfl, rfl⟩

set_option maxRecDepth 100000 in
set_option maxHeartbeats 2000000 in
theorem plays_long (a : Option Addr) (len cap : Nat) (hlen : 60 < len) (b p n l : Int) (w : World) : Calls Try.prog 6 #[.agg (parA b p n l), .slice a len cap] w fun e w' => e = .returned (.bool true) ∧ Below w.heap.size w w' := by
  have HP := Lib.hid (PX.new w b p n l)
  have HS : Hid ((Try.prog.info? 45).map (·.size) = some (parA b p n l).size) := by show _ = _; unfold parA; kernel_rfl
  have HN : Hid (∀ W, Calls Try.prog 24 #[.agg (parA b p n l)] W fun e w' => ∃ v z, e = .returned (.tuple #[.pointer v, .int .i64 z]) ∧ Below W.heap.size W w') := fun W => by
    by_cases h : okP b p n l = true
    · obtain ⟨_, _, _, hn, _, _⟩ := (okP_iff _ _ _ _).1 h
      obtain ⟨n, rfl⟩ : ∃ k : Nat, n = k := ⟨n.toNat, by omega⟩
      exact (new_ok b p n l h W).mono fun e w' ⟨B, G, he, _, _, _, hb⟩ => ⟨_, _, he, hb⟩
    · exact (new_bad b p n l h W).mono fun e w' ⟨he, hb⟩ => ⟨_, _, he, hb⟩
  have HRN : Hid (∀ W, Calls Try.prog 25 #[.agg (parA b p n l)] W fun e w' => ∃ v z, e = .returned (.tuple #[.pointer v, .int .i64 z]) ∧ Below W.heap.size W w') := fun W => by
    by_cases h : okP b p n l = true
    · obtain ⟨_, _, _, hn, _, _⟩ := (okP_iff _ _ _ _).1 h
      obtain ⟨n, rfl⟩ : ∃ k : Nat, n = k := ⟨n.toNat, by omega⟩
      exact (rnew_ok b p n l h W).mono fun e w' ⟨B, he, _, hb⟩ => ⟨_, _, he, hb⟩
    · exact (rnew_bad b p n l h W).mono fun e w' ⟨he, hb⟩ => ⟨_, _, he, hb⟩
  have HRW : Hid (∀ W0 W x, PX w W0 x b p n l → Below W0.heap.size W0 W → RowAt W x 45 (parA b p n l)) := fun W0 W x h hb => h.row.below hb h.row.lt
  have h60 : (60 : Int) < len := by omega
  clear hlen
  go_enter Try.func6, Try.ntmps6
  go_upto_region 1 with (fail)
  generalize World.alloc w _ = W0 at HP ⊢
  generalize w.heap.size = x at HP ⊢
  go_wp2_with (first
    | (refine wpList_load_row rfl 45 _ rfl x rfl 45 (parA b p n l) (0, 0) _ (HRW.out _ _ _ HP.out G1.out) Try.underlying45 rfl HS.out ?_)
    | (refine wpList_load_row rfl 45 _ rfl x rfl 45 (parA b p n l) (0, 0) _ HP.out.row Try.underlying45 rfl HS.out ?_)
    | (go_at_call 24; refine (HN.out _).mono ?_; rintro e W1 ⟨v1, z1, rfl, g1⟩; have G1 := Lib.hid g1; clear g1)
    | (go_at_call 26; refine (from_any _ _ _ _ _).mono ?_; rintro e W2 ⟨rfl, g2⟩; have G2 := Lib.hid (G1.out.trans (g2.mono G1.out.size)); clear g2)
    | (go_at_call 25; refine (HRN.out _).mono ?_; rintro e W3 ⟨v3, z3, rfl, g3⟩; have G3 := Lib.hid (G2.out.trans (g3.mono G2.out.size)); clear g3)
    | (go_at_call 27; refine (awake_any _).mono ?_; rintro e W4 ⟨rfl, g4⟩; have G4 := Lib.hid (G3.out.trans (g4.mono G3.out.size)); clear g4))
  go_ret
  exact ⟨rfl, HP.out.all G4.out⟩
end Go.Proofs.Ytibmmonboeifhaa
