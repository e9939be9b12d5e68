/- InheritLimits' walk. -/
import Derived.Test.YtlpgbdcdniancaaJa
import Derived.Deep.AppendLies
namespace Go.Proofs.Ytlpgbdcdniancaa
open Go.RowKit
set_option linter.unusedVariables false

/-- What the loops carry: the graph's block, its two lists. -/
structure LG (W wr : World) (x i j : Nat) (v1 v2 : Value) : Prop where
  row : RowAt wr x 25 #[v1, v2]
  o1 : wr.ownsRow (x + 1) 3 1 v1 i (encI (limB i))
  o2 : wr.ownsRow (x + 1) 39 2 v2 j (encR (limE j))
  fr : Fr No W wr
  xe : W.heap.size = x
  ne : ∀ k, v1.ownBlock = some k → v2.ownBlock ≠ some k
theorem LG.lt {W wr : World} {x i j : Nat} {v1 v2 : Value} (h : LG W wr x i j v1 v2) : x < wr.heap.size := h.row.lt
theorem LG.grow1 {W wr W0 w1 : World} {x i j : Nat} {v1 v2 : Value} (h : LG W wr x i j v1 v2) (hf : Fr No wr W0) {g c : Nat} {y : Int} (hy : limB (i + 1) = limB i ++ [y])
    (ho : w1.ownsRow (x + 1) 3 1 (.slice (some ⟨g, 0, none⟩) (i + 1) c) (i + 1) (encI (limB i) ++ [.int .i64 y])) (hg : W0.grownBy w1 v1.ownBlock) (hat : v1.ownBlock = some g ∨ g = W0.heap.size) :
    (RowAt w1 x 25 #[v1, v2]) ∧ LG W (w1.setCell ⟨x, 0, none⟩ (.slice (some ⟨g, 0, none⟩) (i + 1) c)) x (i + 1) j (.slice (some ⟨g, 0, none⟩) (i + 1) c) v2 := by
  have hF : Fr (fun k => v1.ownBlock = some k) wr w1 := hf.any.trans (Fr.grown hg (fun k e => e))
  have hx1 : ∀ k, v1.ownBlock = some k → x + 1 ≤ k := fun k e => (h.o1.lt k e).1
  have hr : RowAt w1 x 25 #[v1, v2] := h.row.fr hF (fun e => by have := hx1 x e; omega)
  have hs : Fr (fun k => k = x) w1 (w1.setCell ⟨x, 0, none⟩ (.slice (some ⟨g, 0, none⟩) (i + 1) c)) := Fr.set (S := fun k => k = x) _ _ _ _ rfl
  refine ⟨hr, RowAt.set hr 0 _, ?_, ?_, ?_, h.xe, ?_⟩
  · rw [hy, show encI (limB i ++ [y]) = encI (limB i) ++ [.int .i64 y] from by simp [encI]]
    exact own_fr2 ho hs (fun k e e2 => by have := (ho.lt k e).1; omega)
  · exact own_fr2 (own_fr2 h.o2 hF (fun k e e2 => h.ne k e2 e)) hs (fun k e e2 => by have := (h.o2.lt k e).1; omega)
  · exact (h.fr.over hF (fun k e => .inr (by have := hx1 k e; have := h.xe; omega))).over hs (fun k e => .inr (by have := h.xe; omega))
  · intro k e e2
    injection e with e
    have e : g = k := e
    rcases hat with h1 | h1
    · exact h.ne k (by rw [h1, e]) e2
    · have := (h.o2.lt k e2).2; have := hf.size; have : g = k := e; omega
theorem LG.grow2 {W wr W0 w1 : World} {x i j : Nat} {v1 v2 : Value} (h : LG W wr x i j v1 v2) (hf : Fr No wr W0) {g c : Nat}
    (ho : w1.ownsRow (x + 1) 39 2 (.slice (some ⟨g, 0, none⟩) (j + 1) c) (j + 1) (encR (limE j) ++ [.int .i64 (limAt j).1, .int .i64 (limAt j).2])) (hg : W0.grownBy w1 v2.ownBlock) (hat : v2.ownBlock = some g ∨ g = W0.heap.size) :
    (RowAt w1 x 25 #[v1, v2]) ∧ LG W (w1.setCell ⟨x, 1, none⟩ (.slice (some ⟨g, 0, none⟩) (j + 1) c)) x i (j + 1) v1 (.slice (some ⟨g, 0, none⟩) (j + 1) c) := by
  have hF : Fr (fun k => v2.ownBlock = some k) wr w1 := hf.any.trans (Fr.grown hg (fun k e => e))
  have hx1 : ∀ k, v2.ownBlock = some k → x + 1 ≤ k := fun k e => (h.o2.lt k e).1
  have hr : RowAt w1 x 25 #[v1, v2] := h.row.fr hF (fun e => by have := hx1 x e; omega)
  have hs : Fr (fun k => k = x) w1 (w1.setCell ⟨x, 1, none⟩ (.slice (some ⟨g, 0, none⟩) (j + 1) c)) := Fr.set (S := fun k => k = x) _ _ _ _ rfl
  refine ⟨hr, RowAt.set hr 1 _, ?_, ?_, ?_, h.xe, ?_⟩
  · exact own_fr2 (own_fr2 h.o1 hF (fun k e e2 => h.ne k e e2)) hs (fun k e e2 => by have := (h.o1.lt k e).1; omega)
  · rw [limE_succ, encR_app]
    exact own_fr2 ho hs (fun k e e2 => by have := (ho.lt k e).1; omega)
  · exact (h.fr.over hF (fun k e => .inr (by have := hx1 k e; have := h.xe; omega))).over hs (fun k e => .inr (by have := h.xe; omega))
  · intro k e e2
    injection e2 with e2
    have e2 : g = k := e2
    rcases hat with h1 | h1
    · exact h.ne k e (by rw [h1, e2])
    · have := (h.o1.lt k e).2; have := hf.size; have : g = k := e2; omega
set_option maxRecDepth 100000 in
set_option maxHeartbeats 2000000 in
theorem limits_walk (W : World) (t u : Int) (t0 : 0 ≤ t) (t1 : t < 256) (u0 : 0 ≤ u) (u1 : u < 256) : Calls Try.prog 4 #[.int .u8 t, .int .u8 u] W fun e w' => e = .returned (.bool true) ∧ Fr No W w' := by
  have HG0 : Hid (LG W (W.alloc (.cells #[.slice none 0 0, .slice none 0 0] 25)) W.heap.size 0 0 (.slice none 0 0) (.slice none 0 0)) :=
    ⟨RowAt.new W _ _, World.ownsRow_nil _ _ _ _, World.ownsRow_nil _ _ _ _, Fr.alloc _ _ _, rfl, fun k e => nomatch e⟩
  have ta : 0 ≤ t % 11 := Int.emod_nonneg _ (by decide)
  have tb : t % 11 < 11 := Int.emod_lt_of_pos _ (by decide)
  have ua : 0 ≤ u % 11 := Int.emod_nonneg _ (by decide)
  have ub : u % 11 < 11 := Int.emod_lt_of_pos _ (by decide)
  obtain ⟨i0, hi0, hz0, hz1, hz2⟩ := info_parts info_int
  have HI0 := Lib.hid hi0
  have HZ0 := Lib.hid hz0
  have HZ1 := Lib.hid hz1
  have HZ2 := Lib.hid hz2
  obtain ⟨j0, hj0, hy0, hy1, hy2⟩ := info_parts info_edge
  have HJ0 := Lib.hid hj0
  have HY0 := Lib.hid hy0
  have HY1 := Lib.hid hy1
  have HY2 := Lib.hid hy2
  clear hi0 hz0 hz1 hz2 hj0 hy0 hy1 hy2
  go_enter Try.func4, Try.ntmps4
  go_upto_region 2 with (fail)
  generalize World.alloc W _ = W1 at HG0 ⊢
  generalize W.heap.size = x at HG0 ⊢
  go_wp2
  go_loopw [6] (fun vi wr => ∃ i : Nat, vi = .int .i64 i ∧ (i : Int) ≤ 250 + t % 11 ∧ Hid (∃ v1, LG W wr x i 0 v1 (.slice none 0 0))) (fun vi _ => 300 - (intOf vi).toNat)
  case atStart => exact ⟨0, rfl, by omega, _, HG0.out⟩
  case round =>
    obtain ⟨i, rfl, i1, HI⟩ := hrel
    have i0' : (0 : Int) ≤ i := by omega
    obtain ⟨v1, hG⟩ := HI.out
    obtain ⟨av, cv, hv1⟩ := own_shape hG.o1
    subst hv1
    have HG := Lib.hid hG
    clear hG HI
    by_cases hlt : (i : Int) < 250 + t % 11
    · have HMS : Hid (300 - (intOf (Value.int IntKind.i64 ((i : Int) + 1))).toNat < 300 - (intOf (Value.int IntKind.i64 (i : Int))).toNat) := by
        show _ < _
        simp only [intOf]
        omega
      have c0 : wr.cell? ⟨x, 0, none⟩ = some (.slice av i cv) := HG.out.row.cell 0
      have HONE : Hid (∀ u ∈ [Value.int .i64 ((i : Int) % 256)], u.oneCell' = true) := by show ∀ u ∈ _, _; simp [Value.oneCell']
      have HMAX : Hid (i + 1 ≤ maxLen) := by show _ ≤ _; unfold maxLen; omega
      have HBYT : Hid ((i + 1) * 8 ≤ 140737488355328) := by show _ ≤ _; omega
      have HSZ : Hid ((wr.alloc (.cells #[.int .i64 ((i : Int) % 256)] 3)).heap.size = wr.heap.size + 1) := by show (wr.alloc _).heap.size = _; simp
      have HLO : Hid (x + 1 ≤ (wr.alloc (.cells #[.int .i64 ((i : Int) % 256)] 3)).heap.size) := by have := HG.out.lt; rw [HSZ.out]; show _ ≤ _; omega
      have HO : Hid ((wr.alloc (.cells #[.int .i64 ((i : Int) % 256)] 3)).ownsRow (x + 1) 3 1 (.slice av i cv) i (encI (limB i))) := HG.out.o1.alloc _
      have HKEY : Hid (∀ g c w1, World.ownsRow w1 (x + 1) 3 1 (.slice (some ⟨g, 0, none⟩) (i + 1) c) (i + 1) (encI (limB i) ++ [.int .i64 ((i : Int) % 256)]) → (wr.alloc (.cells #[.int .i64 ((i : Int) % 256)] 3)).grownBy w1 (Value.slice av i cv).ownBlock → ((Value.slice av i cv).ownBlock = some g ∨ g = wr.heap.size + 1) → (RowAt w1 x 25 #[.slice av i cv, .slice none 0 0]) ∧ LG W (w1.setCell ⟨x, 0, none⟩ (.slice (some ⟨g, 0, none⟩) (i + 1) c)) x (i + 1) 0 (.slice (some ⟨g, 0, none⟩) (i + 1) c) (.slice none 0 0)) := fun g c w1 h1 h2 h3 =>
        HG.out.grow1 (Fr.alloc _ _ _) (by rw [limB_succ]; norm_cast) h1 h2 (by rw [HSZ.out]; exact h3)
      clear HG
      go_upto_region 5 with (fail)
      go_upto_region 4 with (at_builtin; (refine wpList_append_lies (wr.alloc (.cells #[.int .i64 ((i : Int) % 256)] 3)) rfl (.tmp 19) (.tmp 22) 22 rfl (x + 1) 3 i0 (.int .i64 0) 1 8 Try.underlying22 HI0.out HZ0.out HZ1.out HZ2.out rfl (by decide) (.slice av i cv) i (encI (limB i)) rfl HO.out ⟨wr.heap.size, 0, none⟩ 1 1 [.int .i64 ((i : Int) % 256)] rfl rfl (cell_one_new wr _ _) HONE.out (by decide) HMAX.out HBYT.out HLO.out (wr.heap.size + 1) HSZ.out ?_); intro gg cap' w1 h1 h2 h3 h4; have HN := Lib.hid (HKEY.out gg cap' w1 h1 h2 h3); clear h1 h2 h3 h4 c0; have c1 : w1.cell? ⟨x, 0, none⟩ = some (.slice av i cv) := HN.out.1.cell 0; have f1 : w1.frozen? ⟨x, 0, none⟩ = false := HN.out.1.frozen 0)
      have HI1 := Lib.hid HN.out.2
      clear HN c1 f1 HKEY HO HSZ HLO
      generalize w1.setCell _ _ = w2 at HI1 ⊢
      have i2 : ((i : Int) + 1) ≤ 250 + t % 11 := by omega
      go_wp2
      go_roundw
      case rel => exact ⟨i + 1, by push_cast; rfl, i2, _, HI1.out⟩
      case measure => exact HMS.out
    · have HT : Hid ((i : Int) = 250 + t % 11) := by show _ = _; omega
      go_wp2
      go_loopw [7] (fun vj wr => ∃ j : Nat, vj = .int .i64 j ∧ (j : Int) ≤ 1995 + u % 11 ∧ Hid (∃ v2, LG W wr x i j (.slice av i cv) v2)) (fun vj _ => 2100 - (intOf vj).toNat)
      case atStart => exact ⟨0, rfl, by omega, _, HG.out⟩
      case round =>
        clear HG
        obtain ⟨j, rfl, j1, HI⟩ := hrel
        have j0' : (0 : Int) ≤ j := by omega
        obtain ⟨v2, hG⟩ := HI.out
        obtain ⟨ae, ce, hv2⟩ := own_shape hG.o2
        subst hv2
        have HG := Lib.hid hG
        clear hG HI
        by_cases hlt : (j : Int) < 1995 + u % 11
        · have HMS : Hid (2100 - (intOf (Value.int IntKind.i64 ((j : Int) + 1))).toNat < 2100 - (intOf (Value.int IntKind.i64 (j : Int))).toNat) := by
            show _ < _
            simp only [intOf]
            omega
          have c0 : wr.cell? ⟨x, 1, none⟩ = some (.slice ae j ce) := HG.out.row.cell 1
          generalize ha : (j : Int) % 249 = ja
          generalize hb : ((j : Int) + (j : Int) / 249 + 1) % 249 = jb
          have HA := Lib.hid ha
          have HB := Lib.hid hb
          clear ha hb
          have HONE : Hid (∀ u ∈ [Value.int .i64 ja, Value.int .i64 jb], u.oneCell' = true) := by show ∀ u ∈ _, _; simp [Value.oneCell']
          have HMAX : Hid (j + 1 ≤ maxLen) := by show _ ≤ _; unfold maxLen; omega
          have HBYT : Hid ((j + 1) * 16 ≤ 140737488355328) := by show _ ≤ _; omega
          have HSZ : Hid ((wr.alloc (.cells #[.int .i64 ja, .int .i64 jb] 39)).heap.size = wr.heap.size + 1) := by show (wr.alloc _).heap.size = _; simp
          have HLO : Hid (x + 1 ≤ (wr.alloc (.cells #[.int .i64 ja, .int .i64 jb] 39)).heap.size) := by have := HG.out.lt; rw [HSZ.out]; show _ ≤ _; omega
          have HO : Hid ((wr.alloc (.cells #[.int .i64 ja, .int .i64 jb] 39)).ownsRow (x + 1) 39 2 (.slice ae j ce) j (encR (limE j))) := HG.out.o2.alloc _
          have HNW : Hid (∀ k u, [Value.int .i64 ja, Value.int .i64 jb][k]? = some u → (wr.alloc (.cells #[.int .i64 ja, .int .i64 jb] 39)).cell? ((⟨wr.heap.size, 0, none⟩ : Addr).add k) = some u) := fun k u hk => by
            rw [Addr.add_mid, Nat.zero_add, (RowAt.new wr 39 #[.int .i64 ja, .int .i64 jb]).cell k]
            simpa using hk
          have HKEY : Hid (∀ g c w1, World.ownsRow w1 (x + 1) 39 2 (.slice (some ⟨g, 0, none⟩) (j + 1) c) (j + 1) (encR (limE j) ++ [.int .i64 ja, .int .i64 jb]) → (wr.alloc (.cells #[.int .i64 ja, .int .i64 jb] 39)).grownBy w1 (Value.slice ae j ce).ownBlock → ((Value.slice ae j ce).ownBlock = some g ∨ g = wr.heap.size + 1) → (RowAt w1 x 25 #[.slice av i cv, .slice ae j ce]) ∧ LG W (w1.setCell ⟨x, 1, none⟩ (.slice (some ⟨g, 0, none⟩) (j + 1) c)) x i (j + 1) (.slice av i cv) (.slice (some ⟨g, 0, none⟩) (j + 1) c)) := fun g c w1 h1 h2 h3 => by
            rw [← HA.out, ← HB.out] at h1 h2
            refine HG.out.grow2 (Fr.alloc _ _ _) ?_ h2 (by rw [← HA.out, ← HB.out] at HSZ; rw [HSZ.out]; exact h3)
            have e1 : (limAt j).1 = (j : Int) % 249 := by simp only [limAt]; omega
            have e2 : (limAt j).2 = ((j : Int) + (j : Int) / 249 + 1) % 249 := by simp only [limAt]; omega
            rw [e1, e2]
            exact h1
          have HAB : Hid ((j : Int) % 249 = ja ∧ ((j : Int) + (j : Int) / 249 + 1) % 249 = jb) := ⟨HA.out, HB.out⟩
          clear HG HA HB
          go_upto_region 9 with (fail)
          go_upto_region 8 with (at_builtin; rw [HAB.out.2, HAB.out.1]; (refine wpList_append_lies (wr.alloc (.cells #[.int .i64 ja, .int .i64 jb] 39)) rfl (.tmp 34) (.tmp 44) 23 rfl (x + 1) 39 j0 (.agg #[.int .i64 0, .int .i64 0]) 2 16 Try.underlying23 HJ0.out HY0.out HY1.out HY2.out rfl (by decide) (.slice ae j ce) j (encR (limE j)) rfl HO.out ⟨wr.heap.size, 0, none⟩ 1 1 [.int .i64 ja, .int .i64 jb] rfl rfl HNW.out HONE.out (by decide) HMAX.out HBYT.out HLO.out (wr.heap.size + 1) HSZ.out ?_); intro gg cap' w1 h1 h2 h3 h4; have HN := Lib.hid (HKEY.out gg cap' w1 h1 h2 h3); clear h1 h2 h3 h4 c0; have c1 : w1.cell? ⟨x, 1, none⟩ = some (.slice ae j ce) := HN.out.1.cell 1; have f1 : w1.frozen? ⟨x, 1, none⟩ = false := HN.out.1.frozen 1)
          have HI1 := Lib.hid HN.out.2
          clear HN c1 f1 HKEY HO HSZ HLO HNW HAB
          generalize w1.setCell _ _ = w2 at HI1 ⊢
          have j2 : ((j : Int) + 1) ≤ 1995 + u % 11 := by omega
          go_wp2
          go_roundw
          case rel => exact ⟨j + 1, by push_cast; rfl, j2, _, HI1.out⟩
          case measure => exact HMS.out
        · have HU : Hid ((j : Int) = 1995 + u % 11) := by show _ = _; omega
          have c0 : wr.cell? ⟨x, 0, none⟩ = some (.slice av i cv) := HG.out.row.cell 0
          have c1 : wr.cell? ⟨x, 1, none⟩ = some (.slice ae j ce) := HG.out.row.cell 1
          have i9 : (0 : Int) ≤ i := i0'
          have HC : Hid (Calls Try.prog 15 #[.agg #[.slice av i cv, .slice ae j ce]] wr fun e w' => e = .returned (.int .i64 (if 256 < i ∨ 2000 < j then 18 else 0)) ∧ Fr No wr w') := by
            show Calls _ _ _ _ _
            obtain ⟨a1, c1', e1, n1, h1, _⟩ := own_ints HG.out.o1
            obtain ⟨a2, c2', e2, n2, h2⟩ := own_edges HG.out.o2
            injection e1 with e1 _ e1'
            injection e2 with e2 _ e2'
            subst e1 e1' e2 e2'
            have := check_any av ae cv ce (limB i) (limE j) wr h1 h2
            rw [limB_len, limE_len, lim_chk (by have := HT.out; omega)] at this
            exact this
          have HF := Lib.hid HG.out.fr
          clear HG HI0 HZ0 HZ1 HZ2 HJ0 HY0 HY1 HY2 HG0
          by_cases hA : (256 : Int) < i
          · have HV : Hid ((if 256 < i ∨ 2000 < j then (18 : Int) else 0) = 18) := if_pos (.inl (by omega))
            rw [HV.out] at HC
            clear HV HT HU
            go_wp2_with (first
              | (go_at_call 15; refine HC.out.mono ?_; rintro e w3 ⟨rfl, f3⟩; have F3 := Lib.hid f3; clear f3 c0 c1)
              | (go_at_call 11; refine (awake_any _).mono ?_; rintro e w5 ⟨rfl, f5⟩; have F5 := Lib.hid f5; clear f5))
            go_ret
            exact ⟨rfl, (HF.out.trans F3.out).trans F5.out⟩
          · by_cases hB : (2000 : Int) < j
            · have HV : Hid ((if 256 < i ∨ 2000 < j then (18 : Int) else 0) = 18) := if_pos (.inr (by omega))
              rw [HV.out] at HC
              clear HV HT HU
              go_wp2_with (first
                | (go_at_call 15; refine HC.out.mono ?_; rintro e w3 ⟨rfl, f3⟩; have F3 := Lib.hid f3; clear f3 c0 c1)
                | (go_at_call 11; refine (awake_any _).mono ?_; rintro e w5 ⟨rfl, f5⟩; have F5 := Lib.hid f5; clear f5))
              go_ret
              exact ⟨rfl, (HF.out.trans F3.out).trans F5.out⟩
            · have HV : Hid ((if 256 < i ∨ 2000 < j then (18 : Int) else 0) = 0) := if_neg (by omega)
              rw [HV.out] at HC
              clear HV HT HU
              go_wp2_with (first
                | (go_at_call 15; refine HC.out.mono ?_; rintro e w3 ⟨rfl, f3⟩; have F3 := Lib.hid f3; clear f3 c0 c1)
                | (go_at_call 11; refine (awake_any _).mono ?_; rintro e w5 ⟨rfl, f5⟩; have F5 := Lib.hid f5; clear f5))
              go_ret
              exact ⟨rfl, (HF.out.trans F3.out).trans F5.out⟩
end Go.Proofs.Ytlpgbdcdniancaa
