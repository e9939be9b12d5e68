/- The reference's meter: its cells; ask. -/
import Derived.Test.YtbjpaemldnoinaaMo
import Derived.Deep.RegionHeld3
import Derived.Laws.AppendOwn
import Derived.Laws.OwnMore
namespace Go.Proofs.Ytbjpaemldnoinaa
open Go.RowKit
set_option linter.unusedVariables false

theorem info_rch : (Try.prog.info? 128).map (fun i => (i.zero, i.size, i.bytes)) = some (some (.agg #[.int .i64 0, .int .i64 0, .bool false]), 3, 24) := by kernel_rfl
def encC : List Ch → List Value
  | [] => []
  | x :: r => .int .i64 (x.t : Int) :: .int .i64 (x.p : Int) :: .bool x.c :: encC r
theorem encC_len : ∀ l, (encC l).length = l.length * 3
  | [] => rfl
  | x :: r => by rw [encC, List.length_cons, List.length_cons, List.length_cons, encC_len r, List.length_cons]; omega
theorem encC_app : ∀ l m, encC (l ++ m) = encC l ++ encC m
  | [], m => rfl
  | x :: r, m => by rw [List.cons_append, encC, encC_app r m]; rfl
theorem encC_one : ∀ l, ∀ u ∈ encC l, u.oneCell' = true
  | [], u, h => nomatch h
  | x :: r, u, h => by
    rw [encC] at h
    rcases List.mem_cons.1 h with h | h
    · rw [h]; rfl
    · rcases List.mem_cons.1 h with h | h
      · rw [h]; rfl
      · rcases List.mem_cons.1 h with h | h
        · rw [h]; rfl
        · exact encC_one r u h
theorem encC_get : ∀ (l : List Ch) (i : Nat) (x : Ch), l[i]? = some x → (encC l)[i * 3]? = some (.int .i64 (x.t : Int)) ∧ (encC l)[i * 3 + 1]? = some (.int .i64 (x.p : Int)) ∧ (encC l)[i * 3 + 2]? = some (.bool x.c)
  | [], i, x, h => by simp at h
  | y :: r, 0, x, h => by simp at h; subst h; exact ⟨rfl, rfl, rfl⟩
  | y :: r, i + 1, x, h => by
    have := encC_get r i x (by simpa using h)
    rw [encC, show (i + 1) * 3 = i * 3 + 3 from by omega]
    simpa using this
theorem own_fr4 {W W' : World} {S : Nat → Prop} {base size : Nat} {t : TypeId} {v : Value} {n : Nat} {xs : List Value} (h : W.ownsRow base t size v n xs) (hf : Fr S W W') (hS : ∀ k, v.ownBlock = some k → ¬ S k) : W'.ownsRow base t size v n xs := by
  refine ⟨h.1, h.2.imp id fun ⟨g, cap, cur, h1, h2, h3, r⟩ => ⟨g, cap, cur, h1, h2, ?_, r⟩⟩
  rw [hf.block g (Array.getElem?_eq_some_iff.1 h3).1 (hS g (by rw [h1]; rfl))]; exact h3
theorem own_base4 {W : World} {lo base size : Nat} {t : TypeId} {v : Value} {n : Nat} {xs : List Value} (h : W.ownsRow base t size v n xs) (hlo : lo ≤ base) : W.ownsRow lo t size v n xs :=
  ⟨h.1, h.2.imp id fun ⟨g, cap, cur, h1, h2, r⟩ => ⟨g, cap, cur, h1, Nat.le_trans hlo h2, r⟩⟩
theorem own_shape4 {W : World} {lo size : Nat} {t : TypeId} {v : Value} {n : Nat} {xs : List Value} (h : W.ownsRow lo t size v n xs) : ∃ a c, v = .slice a n c := by
  rcases h.2 with ⟨rfl, h0⟩ | ⟨g, cap, cur, rfl, _⟩
  · exact ⟨_, _, by rw [h0]⟩
  · exact ⟨_, _, rfl⟩
theorem own_someC {W : World} {lo : Nat} {t : TypeId} {v : Value} {l : List Ch} (h : W.ownsRow lo t 3 v l.length (encC l)) (hl : 0 < l.length) : ∃ g cap, v = .slice (some ⟨g, 0, none⟩) l.length cap ∧ lo ≤ g ∧ l.length ≤ cap ∧ (∀ i x, l[i]? = some x → W.cell? ⟨g, i * 3, none⟩ = some (.int .i64 (x.t : Int)) ∧ W.cell? ⟨g, i * 3 + 1, none⟩ = some (.int .i64 (x.p : Int)) ∧ W.cell? ⟨g, i * 3 + 2, none⟩ = some (.bool x.c)) ∧ ∀ j, W.frozen? ⟨g, j, none⟩ = false := by
  have hc := fun g (e : v.ownBlock = some g) => h.cells (g := g) e
  rcases h.2 with ⟨rfl, h0⟩ | ⟨g, cap, cur, rfl, h2, h3, h4, _, _, _⟩
  · omega
  · refine ⟨g, cap, rfl, h2, h4, fun i x hx => ?_, fun j => frozen_of_row _ _ j _ _ h3⟩
    obtain ⟨e1, e2, e3⟩ := encC_get l i x hx
    have a1 := hc g rfl _ _ e1
    have a2 := hc g rfl _ _ e2
    have a3 := hc g rfl _ _ e3
    rw [Addr.add_mid, Nat.zero_add] at a1 a2 a3
    exact ⟨a1, a2, a3⟩
/-- The reference's meter of the configuration w, p, P in block G; its blocks are lo and above. -/
def rcel (w p pb np cap : Nat) (v : Value) (T : Nat) : Array Value := #[.int .i64 (w : Int), .int .i64 (p : Int), .slice (some ⟨pb, 0, none⟩) np cap, v, .int .i64 (T : Int)]
structure RA (lo G pb cap : Nat) (v : Value) (w p : Nat) (P : List (Int × Int)) (T : Nat) (L : List Ch) (W : World) : Prop where
  row : RowAt W G 106 (rcel w p pb P.length cap v T)
  parts : PartsAt W pb 0 P
  own : W.ownsRow lo 128 3 v L.length (encC L)
  hlo : lo ≤ G
  hlop : lo ≤ pb
  ne : pb ≠ G
  nv : v.ownBlock ≠ some G
  nvp : v.ownBlock ≠ some pb
  ok : cfgV w p P = 0
def RM (lo G w p : Nat) (P : List (Int × Int)) (T : Nat) (L : List Ch) (W : World) : Prop := ∃ pb cap v, RA lo G pb cap v w p P T L W
theorem partsAt_fr {W W' : World} {pb off : Nat} {P : List (Int × Int)} {S : Nat → Prop} (h : PartsAt W pb off P) (hf : Fr S W W') (hS : ¬ S pb) : PartsAt W' pb off P := by
  refine ⟨Nat.lt_of_lt_of_le h.1 hf.size, fun i x hx => ?_⟩
  have hb := hf.block pb h.1 hS
  obtain ⟨e1, e2⟩ := h.2 i x hx
  exact ⟨(World.cell?_of_block hb).trans e1, (World.cell?_of_block hb).trans e2⟩
theorem RA.keep {W W' : World} {lo G pb cap w p T : Nat} {v : Value} {P : List (Int × Int)} {L : List Ch} {S : Nat → Prop} (h : RA lo G pb cap v w p P T L W) (hf : Fr S W W') (hS : ∀ k, S k → k < lo) : RA lo G pb cap v w p P T L W' :=
  ⟨h.row.fr hf (fun e => by have := hS G e; have := h.hlo; omega), partsAt_fr h.parts hf (fun e => by have := hS pb e; have := h.hlop; omega), own_fr4 h.own hf (fun k e e2 => by have := hS k e2; have := (h.own.lt k e).1; omega), h.hlo, h.hlop, h.ne, h.nv, h.nvp, h.ok⟩
theorem RA.rest {W W' : World} {lo G pb cap w p T : Nat} {v : Value} {P : List (Int × Int)} {L : List Ch} (h : RA lo G pb cap v w p P T L W) (hf : Fr (fun _ => False) W W') : RA lo G pb cap v w p P T L W' := h.keep hf (fun _ e => e.elim)
/-- The time is told. -/
theorem RA.tell {W : World} {lo G pb cap w p T : Nat} {v : Value} {P : List (Int × Int)} {L : List Ch} (h : RA lo G pb cap v w p P T L W) (n : Nat) : RA lo G pb cap v w p P n L (W.setCell ⟨G, 4, none⟩ (.int .i64 (n : Int))) := by
  have hf : Fr (fun k => k = G) W (W.setCell ⟨G, 4, none⟩ (.int .i64 (n : Int))) := Fr.set _ _ _ _ rfl
  exact ⟨h.row.set 4 _, partsAt_fr h.parts hf h.ne, own_fr4 h.own hf (fun k e e2 => h.nv (by rw [e, e2])), h.hlo, h.hlop, h.ne, h.nv, h.nvp, h.ok⟩
theorem RM.keep {W W' : World} {lo G w p T : Nat} {P : List (Int × Int)} {L : List Ch} {S : Nat → Prop} (h : RM lo G w p P T L W) (hf : Fr S W W') (hS : ∀ k, S k → k < lo) : RM lo G w p P T L W' := by
  obtain ⟨pb, cap, v, h⟩ := h; exact ⟨pb, cap, v, h.keep hf hS⟩
theorem RM.rest {W W' : World} {lo G w p T : Nat} {P : List (Int × Int)} {L : List Ch} (h : RM lo G w p P T L W) (hf : Fr (fun _ => False) W W') : RM lo G w p P T L W' := h.keep hf (fun _ e => e.elim)
theorem RM.tell {W : World} {lo G w p T : Nat} {P : List (Int × Int)} {L : List Ch} (h : RM lo G w p P T L W) (n : Nat) : RM lo G w p P n L (W.setCell ⟨G, 4, none⟩ (.int .i64 (n : Int))) := by
  obtain ⟨pb, cap, v, h⟩ := h; exact ⟨pb, cap, v, h.tell n⟩

set_option maxRecDepth 100000 in
set_option maxHeartbeats 2000000 in
theorem rask_any {W : World} {lo G pb cp w p T : Nat} {v : Value} {P : List (Int × Int)} {L : List Ch} (h : RA lo G pb cp v w p P T L W) (now : Int) (ps : List Int) (hps : ps.length ≤ 2) (g cap : Nat) (hg : ∀ i x, ps[i]? = some x → W.cell? ⟨g, i, none⟩ = some (.int .i64 x)) : Calls Try.prog 88 #[.pointer (some ⟨G, 0, none⟩), .int .i64 now, .slice (some ⟨g, 0, none⟩) ps.length cap] W fun e w' => e = .returned (.int .i64 (chkP4 P.length T now ps)) ∧ Fr (fun _ => False) W w' := by
  by_cases h1 : now < 0
  · have HV : Hid (chkP4 P.length T now ps = 34) := by show _ = _; rw [chkP4, if_pos (.inl h1)]
    clear h hg
    go_enter Try.func88, Try.ntmps88
    go_wp2
    go_ret
    exact ⟨by rw [HV.out] <;> rfl, Fr.refl _ _⟩
  by_cases h2 : 1099511627776 < now
  · have HV : Hid (chkP4 P.length T now ps = 34) := by show _ = _; rw [chkP4, if_pos (.inr h2)]
    clear h hg
    go_enter Try.func88, Try.ntmps88
    go_wp2
    go_ret
    exact ⟨by rw [HV.out] <;> rfl, Fr.refl _ _⟩
  have HV : Hid (chkP4 P.length T now ps = if (ps.all (hasB P.length)) = true then (if now < T then 30 else 0) else 34) := by show _ = _; rw [chkP4, if_neg (by omega)]
  generalize chkP4 P.length T now ps = z at HV ⊢
  have HG := Lib.hid hg
  have HH := Lib.hid h
  clear hg h
  have HC : Hid (∀ W2, Fr (fun _ => False) W W2 → W2.cell? ⟨G, 2, none⟩ = some (.slice (some ⟨pb, 0, none⟩) P.length cp) ∧ W2.cell? ⟨G, 4, none⟩ = some (.int .i64 (T : Int)) ∧ ∀ i x, ps[i]? = some x → W2.cell? ⟨g, i, none⟩ = some (.int .i64 x)) := fun W2 f => ⟨(HH.out.row.fr f id).cell 2, (HH.out.row.fr f id).cell 4, fun i x hx => by
    have e := HG.out i x hx
    exact (World.cell?_of_block (f.block g (World.block_lt_of_cell? W _ e) id)).trans e⟩
  go_enter Try.func88, Try.ntmps88
  go_wp2
  go_loopw [7] (fun vi wr => ∃ i : Nat, vi = .int .i64 i ∧ Hid (i ≤ ps.length ∧ (ps.take i).all (hasB P.length) = true ∧ Fr (fun _ => False) W wr)) (fun vi _ => ps.length - (intOf vi).toNat)
  case atStart => exact ⟨0, rfl, Nat.zero_le _, rfl, Fr.refl _ _⟩
  case round =>
    obtain ⟨i, rfl, HR⟩ := hrel
    obtain ⟨c2, c4, hgg⟩ := HC.out _ HR.out.2.2
    by_cases hi : i < ps.length
    · obtain ⟨x, hx⟩ : ∃ x, ps[i]? = some x := ⟨_, List.getElem?_eq_getElem hi⟩
      have d0 := hgg i x hx
      have i0 : (0 : Int) ≤ i := by omega
      have i1 : (i : Int) < ps.length := by omega
      have i2 : (i : Int) < 2 := by omega
      have HX := Lib.hid hx
      have HI := Lib.hid hi
      clear hi hx hgg c4
      cases hb : hasB P.length x
      · have HB := Lib.hid hb
        have HE : Hid (z = 34) := by
          show _ = _
          rw [HV.out, if_neg]
          intro e
          have := List.all_eq_true.1 e x (List.mem_of_getElem? HX.out)
          rw [HB.out] at this
          cases this
        by_cases hx0 : x < 0
        · clear hb
          go_upto_region 8 with (fail)
          go_region
          go_wp2
          go_ret
          exact ⟨by rw [HE.out] <;> rfl, HR.out.2.2.trans (Fr.drew _ _)⟩
        · have hx1 : (P.length : Int) ≤ x := by
            have := (hasB_iff P.length x).2
            rw [hb] at this
            simp only [Bool.false_eq_true, imp_false] at this
            omega
          have hxf : decide (x < 0) = false := decide_eq_false hx0
          clear hb hx0
          go_upto_region 8 with (fail)
          go_region
          go_wp2
          go_ret
          exact ⟨by rw [HE.out] <;> rfl, HR.out.2.2.trans (Fr.drew _ _)⟩
      · have HB := Lib.hid hb
        have hx0 := ((hasB_iff _ _).1 hb).1
        have hxf : decide (x < 0) = false := decide_eq_false (by omega)
        have hx1 := ((hasB_iff _ _).1 hb).2
        clear hb
        go_upto_region 8 with (fail)
        go_region
        go_wp2
        go_roundw
        case rel => exact ⟨i + 1, by push_cast; rfl, HI.out, by rw [List.take_add_one, HX.out, List.all_append, HR.out.2.1]; simp [HB.out], HR.out.2.2.trans (Fr.drew _ _)⟩
        case measure =>
          have := HI.out
          show ps.length - (intOf (Value.int .i64 ((i : Int) + 1))).toNat < ps.length - (intOf (Value.int .i64 (i : Int))).toNat
          simp only [intOf]
          omega
    · have hlt : ¬ (i : Int) < ps.length := by omega
      have HE : Hid (ps.all (hasB P.length) = true) := by have e := HR.out.2.1; rw [show i = ps.length from by have := HR.out.1; omega, List.take_length] at e; exact e
      rw [if_pos HE.out] at HV
      clear hi hgg
      by_cases h3 : now < T
      · rw [if_pos h3] at HV
        go_wp2
        go_ret
        exact ⟨by rw [HV.out] <;> rfl, HR.out.2.2⟩
      · rw [if_neg h3] at HV
        go_wp2
        go_ret
        exact ⟨by rw [HV.out] <;> rfl, HR.out.2.2⟩
end Go.Proofs.Ytbjpaemldnoinaa
