/- The statement's From. -/
import Derived.Test.YtbjpaemldnoinaaHf
import Derived.Deep.RegionLaw
namespace Go.Proofs.Ytbjpaemldnoinaa
open Go.RowKit
set_option linter.unusedVariables false

theorem info_rpt : (Try.prog.info? 107).map (fun i => (i.zero, i.size, i.bytes)) = some (some (.agg #[.int .i64 0, .int .i64 0]), 2, 16) := by kernel_rfl
def encQ : List (Int × Int) → List Value
  | [] => []
  | x :: r => .int .i64 x.1 :: .int .i64 x.2 :: encQ r
theorem encQ_app : ∀ l m, encQ (l ++ m) = encQ l ++ encQ m
  | [], m => rfl
  | x :: r, m => by rw [List.cons_append, encQ, encQ_app r m]; rfl
theorem encQ_len : ∀ l, (encQ l).length = l.length * 2
  | [] => rfl
  | x :: r => by rw [encQ, List.length_cons, List.length_cons, encQ_len r, List.length_cons]; omega
theorem encQ_one : ∀ l, ∀ u ∈ encQ l, u.oneCell' = true
  | [], u, h => nomatch h
  | x :: r, u, h => by
    rw [encQ] at h
    rcases List.mem_cons.1 h with h | h
    · rw [h]; rfl
    · rcases List.mem_cons.1 h with h | h
      · rw [h]; rfl
      · exact encQ_one r u h
theorem encQ_get : ∀ (l : List (Int × Int)) (i : Nat) (x : Int × Int), l[i]? = some x → (encQ l)[i * 2]? = some (.int .i64 x.1) ∧ (encQ l)[i * 2 + 1]? = some (.int .i64 x.2)
  | [], i, x, h => by simp at h
  | y :: r, 0, x, h => by simp at h; subst h; exact ⟨rfl, rfl⟩
  | y :: r, i + 1, x, h => by
    have := encQ_get r i x (by simpa using h)
    rw [encQ, show (i + 1) * 2 = i * 2 + 2 from by omega]
    simpa using this
/-- An own row of parts, as the parts lie. -/
theorem own_parts {W : World} {lo : Nat} {t : TypeId} {v : Value} {P : List (Int × Int)} (h : W.ownsRow lo t 2 v P.length (encQ P)) : ∃ a cap, v = .slice a P.length cap ∧ PartsIn W a P ∧ ∀ b off, a = some ⟨b, off, none⟩ → lo ≤ b := by
  have hc := fun g (e : v.ownBlock = some g) => h.cells (g := g) e
  have hlt := h.lt
  rcases h.2 with ⟨rfl, h0⟩ | ⟨g, cap, cur, rfl, h2, h3, h4, _, _, _⟩
  · exact ⟨none, 0, by rw [h0], .inl (List.length_eq_zero_iff.1 h0), fun b off e => nomatch e⟩
  · refine ⟨_, cap, rfl, .inr ⟨g, 0, rfl, (hlt g rfl).2, fun i x hx => ?_⟩, fun b off e => by cases e; exact h2⟩
    obtain ⟨e1, e2⟩ := encQ_get P i x hx
    have a1 := hc g rfl _ _ e1
    have a2 := hc g rfl _ _ e2
    rw [Addr.add_mid, Nat.zero_add] at a1 a2
    rw [Nat.zero_add]
    exact ⟨a1, a2⟩
/-- What From has made: its own blocks are lo and above. -/
structure FI (W : World) (x y z : Nat) (win pr : Int) (a : Option Addr) (n cap : Nat) (v : Value) (l : List (Int × Int)) (wr : World) : Prop where
  rx : RowAt wr x 40 #[.int .i64 win, .int .i64 pr, .slice a n cap]
  ry : RowAt wr y 51 #[.int .i64 0, .int .i64 0, .slice none 0 0]
  rz : RowAt wr z 51 #[.int .i64 win, .int .i64 pr, v]
  own : wr.ownsRow (z + 1) 107 2 v l.length (encQ l)
  fr : Fr (fun _ => False) W wr
theorem FI.app {W wr w1 : World} {x y z : Nat} {win pr : Int} {a : Option Addr} {n cap gg cap' : Nat} {v : Value} {l : List (Int × Int)} {u : Int × Int} {o : Obj} (h : FI W x y z win pr a n cap v l wr) (hx : x < z) (hy : y < z) (hz : W.heap.size ≤ z)
    (hown : w1.ownsRow (z + 1) 107 2 (.slice (some ⟨gg, 0, none⟩) (l.length + 1) cap') (l.length + 1) (encQ l ++ [.int .i64 u.1, .int .i64 u.2])) (hg : (World.drew (wr.alloc o)).grownBy w1 v.ownBlock) :
    FI W x y z win pr a n cap (.slice (some ⟨gg, 0, none⟩) (l.length + 1) cap') (l ++ [u]) (w1.setCell ⟨z, 2, none⟩ (.slice (some ⟨gg, 0, none⟩) (l.length + 1) cap')) ∧ RowAt w1 z 51 #[.int .i64 win, .int .i64 pr, v] := by
  have hf : Fr (fun k => v.ownBlock = some k) wr w1 := (Fr.alloc _ _ _).trans ((Fr.drew _ _).trans (Fr.grown hg fun k e => e))
  have hk : ∀ k, v.ownBlock = some k → z + 1 ≤ k := fun k e => (h.own.lt k e).1
  have hk2 : z + 1 ≤ gg := (hown.lt gg rfl).1
  have r1 : RowAt w1 z 51 #[.int .i64 win, .int .i64 pr, v] := h.rz.fr hf (fun e => by have := hk z e; omega)
  have hs : Fr (fun k => k = z) w1 (w1.setCell ⟨z, 2, none⟩ (.slice (some ⟨gg, 0, none⟩) (l.length + 1) cap')) := Fr.set _ _ _ _ rfl
  refine ⟨⟨(h.rx.fr hf (fun e => by have := hk x e; omega)).fr hs (by omega), (h.ry.fr hf (fun e => by have := hk y e; omega)).fr hs (by omega), r1.set 2 _, ?_, ?_⟩, r1⟩
  · rw [encQ_app, List.length_append]
    exact own_fr4 hown hs fun k e e2 => by injection e with e; have e' : gg = k := e; omega
  · have h2 : Fr (fun k => z ≤ k) wr (w1.setCell ⟨z, 2, none⟩ (.slice (some ⟨gg, 0, none⟩) (l.length + 1) cap')) := (hf.mono fun k _ e => by have := hk k e; omega).trans (hs.mono fun k _ e => by omega)
    have h3 : Fr (fun k => z ≤ k) W (w1.setCell ⟨z, 2, none⟩ (.slice (some ⟨gg, 0, none⟩) (l.length + 1) cap')) := (h.fr.mono fun _ _ e => e.elim).trans h2
    exact h3.mono fun k hk e => by omega

set_option maxRecDepth 100000 in
set_option maxHeartbeats 4000000 in
theorem from_any (W : World) (win pr : Int) (a : Option Addr) (cap : Nat) (P : List (Int × Int)) (hP : PartsIn W a P) (hl : P.length ≤ 20) : Calls Try.prog 21 #[.agg #[.int .i64 win, .int .i64 pr, .slice a P.length cap]] W fun e w' => ∃ a' cap', e = .returned (.agg #[.int .i64 win, .int .i64 pr, .slice a' P.length cap']) ∧ PartsIn w' a' P ∧ Fr (fun _ => False) W w' := by
  have HP := Lib.hid hP
  have HL := Lib.hid hl
  have l20 : (P.length : Int) ≤ 20 := by omega
  have HR := Lib.hid (RowAt.new W 40 #[.int .i64 win, .int .i64 pr, .slice a P.length cap])
  have HF : Hid (Fr (fun _ => False) W (W.alloc (.cells #[.int .i64 win, .int .i64 pr, .slice a P.length cap] 40))) := Fr.alloc _ _ _
  have HSZ : Hid ((W.alloc (.cells #[.int .i64 win, .int .i64 pr, .slice a P.length cap] 40)).heap.size = W.heap.size + 1) := by show _ = _; simp
  clear hP hl
  go_enter Try.func21, Try.ntmps21
  go_upto_region 1 with (fail)
  have HR2 := Lib.hid (HR.out.fr (Fr.alloc (fun _ => False) _ (.cells #[.int .i64 0, .int .i64 0, .slice none 0 0] 51)) id)
  have HY2 := Lib.hid (RowAt.new (W.alloc (.cells #[.int .i64 win, .int .i64 pr, .slice a P.length cap] 40)) 51 #[.int .i64 0, .int .i64 0, .slice none 0 0])
  have HF2 := Lib.hid (HF.out.trans (Fr.alloc (fun _ => False) _ (.cells #[.int .i64 0, .int .i64 0, .slice none 0 0] 51)))
  have HSZ2 : Hid (((W.alloc (.cells #[.int .i64 win, .int .i64 pr, .slice a P.length cap] 40)).alloc (.cells #[.int .i64 0, .int .i64 0, .slice none 0 0] 51)).heap.size = W.heap.size + 2) := by show _ = _; simp
  rw [HSZ.out] at HY2
  clear HR HF HSZ
  generalize World.alloc (World.alloc W _) _ = W2 at HR2 HY2 HF2 HSZ2 ⊢
  generalize hxx : W.heap.size = x at HR2 HY2 HSZ2 ⊢
  have HXX := Lib.hid hxx
  clear hxx
  have c0 : W2.cell? ⟨x, 0, none⟩ = some (.int .i64 win) := HR2.out.cell 0
  have c1 : W2.cell? ⟨x, 1, none⟩ = some (.int .i64 pr) := HR2.out.cell 1
  go_upto_region 2 with (fail)
  have HI0 : Hid (FI W x (x + 1) W2.heap.size win pr a P.length cap (.slice none 0 0) [] (W2.alloc (.cells #[.int .i64 win, .int .i64 pr, .slice none 0 0] 51))) := ⟨HR2.out.fr (Fr.alloc (fun _ => False) _ _) id, HY2.out.fr (Fr.alloc (fun _ => False) _ _) id, RowAt.new W2 _ _, World.ownsRow_nil _ _ _ _, HF2.out.trans (Fr.alloc _ _ _)⟩
  have HZX : Hid (x < W2.heap.size ∧ x + 1 < W2.heap.size ∧ W.heap.size ≤ W2.heap.size ∧ W.heap.size ≤ x + 1) := by have := HSZ2.out; have := HXX.out; exact ⟨by omega, by omega, by omega, by omega⟩
  have HW3 : Hid (W2.heap.size + 1 ≤ (W2.alloc (.cells #[.int .i64 win, .int .i64 pr, .slice none 0 0] 51)).heap.size) := by show _ ≤ _; simp
  clear HR2 HY2 HF2 HSZ2 c0 c1
  generalize World.alloc W2 _ = W3 at HI0 HW3 ⊢
  generalize W2.heap.size = z at HI0 HZX HW3 ⊢
  generalize hyy : x + 1 = y at HI0 HZX ⊢
  clear hyy
  obtain ⟨it, hi0, hz0, hz1, hz2⟩ := info_parts info_rpt
  have HT0 := Lib.hid hi0
  have HT1 := Lib.hid hz0
  have HT2 := Lib.hid hz1
  have HT3 := Lib.hid hz2
  clear hi0 hz0 hz1 hz2
  go_wp2
  go_loopw [4] (fun vi wr => ∃ (i : Nat) (v : Value), vi = .int .i64 i ∧ Hid (i ≤ P.length ∧ FI W x y z win pr a P.length cap v (P.take i) wr)) (fun vi _ => P.length - (intOf vi).toNat)
  case atStart => exact ⟨0, _, rfl, Nat.zero_le _, HI0.out⟩
  case round =>
    obtain ⟨i, v, rfl, HR⟩ := hrel
    have i0 : (0 : Int) ≤ i := by omega
    have c2 : wr.cell? ⟨x, 2, none⟩ = some (.slice a P.length cap) := HR.out.2.rx.cell 2
    by_cases hi : i < P.length
    · obtain ⟨b, off, u, rfl, hu, e0, e1⟩ := (HP.out.fr HR.out.2.fr (fun _ _ _ => id)).get hi
      have i1 : (i : Int) < P.length := by omega
      have HI := Lib.hid hi
      have HTK : Hid (P.take (i + 1) = P.take i ++ [u]) := by show _ = _; rw [List.take_add_one, hu]; rfl
      have HLN : Hid ((P.take i).length = i) := by show _ = _; rw [List.length_take]; omega
      have HMS : Hid (P.length - (intOf (Value.int IntKind.i64 ((i : Int) + 1))).toNat < P.length - (intOf (Value.int IntKind.i64 (i : Int))).toNat) := by
        show _ < _
        simp only [intOf]
        omega
      obtain ⟨av, cv, hv⟩ := own_shape4 HR.out.2.own
      have HV := Lib.hid hv
      obtain ⟨s, c⟩ := u
      have e0' : wr.cell? ⟨b, off + i * 2, none⟩ = some (.int .i64 s) := e0
      have e1' : wr.cell? ⟨b, off + i * 2 + 1, none⟩ = some (.int .i64 c) := e1
      have c3 : wr.cell? ⟨z, 2, none⟩ = some (.slice av (P.take i).length cv) := by rw [← HV.out]; exact HR.out.2.rz.cell 2
      have f3 : wr.frozen? ⟨z, 2, none⟩ = false := HR.out.2.rz.frozen 2
      have HBW : Hid (b < wr.heap.size) := World.block_lt_of_cell? wr _ e0'
      clear hi hu e0 e1 hv
      rw [HLN.out] at c3
      have hxx : ∀ o j, (wr.alloc o).cell? ⟨x, j, none⟩ = wr.cell? ⟨x, j, none⟩ := fun o j => World.cell?_of_block (heap_alloc_old _ _ HR.out.2.rx.lt)
      have hzz : ∀ o j, (wr.alloc o).cell? ⟨z, j, none⟩ = wr.cell? ⟨z, j, none⟩ := fun o j => World.cell?_of_block (heap_alloc_old _ _ HR.out.2.rz.lt)
      have hbb : ∀ o j, (wr.alloc o).cell? ⟨b, j, none⟩ = wr.cell? ⟨b, j, none⟩ := fun o j => World.cell?_of_block (heap_alloc_old _ _ HBW.out)
      have HO3 : Hid (wr.ownsRow (z + 1) 107 2 (.slice av i cv) i (encQ (P.take i))) := by have := HR.out.2.own; rw [HV.out, HLN.out] at this; exact this
      have HONE : Hid (∀ u ∈ [Value.int .i64 s, Value.int .i64 c], u.oneCell' = true) := by show ∀ u ∈ _, _; simp [Value.oneCell']
      have HMAX : Hid (i + 1 ≤ maxLen) := by have := HL.out; have := HI.out; show _ ≤ _; unfold maxLen; omega
      have HBYT : Hid ((i + 1) * 16 ≤ 140737488355328) := by have := HL.out; have := HI.out; show _ ≤ _; omega
      have HSZ : Hid ((World.drew (wr.alloc (.cells #[.int .i64 s, .int .i64 c] 107))).heap.size = wr.heap.size + 1) := by show (wr.alloc _).heap.size = _; simp
      have HLO : Hid (z + 1 ≤ (World.drew (wr.alloc (.cells #[.int .i64 s, .int .i64 c] 107))).heap.size) := by have := HR.out.2.rz.lt; rw [HSZ.out]; show _ ≤ _; omega
      have HNW : Hid (∀ j u, [Value.int .i64 s, Value.int .i64 c][j]? = some u → (World.drew (wr.alloc (.cells #[.int .i64 s, .int .i64 c] 107))).cell? ((⟨wr.heap.size, 0, none⟩ : Addr).add j) = some u) := fun j u hj => by
        rw [Addr.add_mid, Nat.zero_add, show (World.drew (wr.alloc (.cells #[.int .i64 s, .int .i64 c] 107))).cell? ⟨wr.heap.size, j, none⟩ = (wr.alloc (.cells #[.int .i64 s, .int .i64 c] 107)).cell? ⟨wr.heap.size, j, none⟩ from rfl, (RowAt.new wr 107 #[.int .i64 s, .int .i64 c]).cell j]
        simpa using hj
      have HAPP : Hid (∀ gg cap' w1, w1.ownsRow (z + 1) 107 2 (.slice (some ⟨gg, 0, none⟩) (i + 1) cap') (i + 1) (encQ (P.take i) ++ [.int .i64 s, .int .i64 c]) → (World.drew (wr.alloc (.cells #[.int .i64 s, .int .i64 c] 107))).grownBy w1 (Value.slice av i cv).ownBlock → FI W x y z win pr (some ⟨b, off, none⟩) P.length cap (.slice (some ⟨gg, 0, none⟩) (i + 1) cap') (P.take (i + 1)) (w1.setCell ⟨z, 2, none⟩ (.slice (some ⟨gg, 0, none⟩) (i + 1) cap')) ∧ w1.cell? ⟨z, 2, none⟩ = some (.slice av i cv) ∧ w1.frozen? ⟨z, 2, none⟩ = false) := fun gg cap' w1 hown hgrow => by
        have := HR.out.2.app (u := (s, c)) (gg := gg) (cap' := cap') HZX.out.1 HZX.out.2.1 HZX.out.2.2.1 (by rw [HLN.out]; exact hown) (by rw [HV.out, HLN.out]; exact hgrow)
        rw [HLN.out, ← HTK.out] at this
        exact ⟨this.1, by rw [show Value.slice av i cv = v from by rw [HV.out, HLN.out]]; exact this.2.cell 2, this.2.frozen 2⟩
      clear HBW
      go_upto_region 5 with (fail)
      go_region_law
        ((refine step_append_lies (World.drew (World.alloc wr (.cells #[.int .i64 s, .int .i64 c] 107))) rfl (.tmp 18) (.tmp 32) 49 rfl (z + 1) 107 it (.agg #[.int .i64 0, .int .i64 0]) 2 16 Try.underlying49 HT0.out HT1.out HT2.out HT3.out rfl (by decide) (.slice av i cv) i (encQ (P.take i)) rfl ((HO3.out.alloc _).drew) ⟨wr.heap.size, 0, none⟩ 1 1 [.int .i64 s, .int .i64 c] rfl rfl HNW.out HONE.out (by decide) HMAX.out HBYT.out HLO.out (wr.heap.size + 1) HSZ.out ?_; intro gg cap' w1 hown1 hgrow hat hlt2; have HAP := Lib.hid (HAPP.out gg cap' w1 hown1 hgrow); have c3' : w1.cell? ⟨z, 2, none⟩ = some (.slice av i cv) := HAP.out.2.1; have f3' : w1.frozen? ⟨z, 2, none⟩ = false := HAP.out.2.2; clear hown1 hgrow hat hlt2))
      all_goals go_wp2
      all_goals go_roundw
      all_goals first
        | exact ⟨i + 1, _, by push_cast; rfl, HI.out, HAP.out.1⟩
        | exact HMS.out
    · have hlt : ¬ (i : Int) < P.length := by omega
      have HE : Hid (P.take i = P) := List.take_of_length_le (by omega)
      have HR9 := Lib.hid HR.out.2
      rw [HE.out] at HR9
      obtain ⟨av, cv, hv, hpa, hlo⟩ := own_parts HR9.out.own
      have HV := Lib.hid hv
      have HPA := Lib.hid hpa
      have HLO := Lib.hid hlo
      have z0 : wr.cell? ⟨z, 0, none⟩ = some (.int .i64 win) := HR9.out.rz.cell 0
      have z1 : wr.cell? ⟨z, 1, none⟩ = some (.int .i64 pr) := HR9.out.rz.cell 1
      have z2 : wr.cell? ⟨z, 2, none⟩ = some (.slice av P.length cv) := by rw [← HV.out]; exact HR9.out.rz.cell 2
      have y0 : wr.cell? ⟨y, 0, none⟩ = some (.int .i64 0) := HR9.out.ry.cell 0
      have y1 : wr.cell? ⟨y, 1, none⟩ = some (.int .i64 0) := HR9.out.ry.cell 1
      have y2 : wr.cell? ⟨y, 2, none⟩ = some (.slice none 0 0) := HR9.out.ry.cell 2
      have g0 : wr.frozen? ⟨y, 0, none⟩ = false := HR9.out.ry.frozen 0
      have g1 : wr.frozen? ⟨y, 1, none⟩ = false := HR9.out.ry.frozen 1
      have g2 : wr.frozen? ⟨y, 2, none⟩ = false := HR9.out.ry.frozen 2
      have HYL := Lib.hid HR9.out.ry
      clear hi hv hpa hlo HR HE
      go_wp2
      have HS3 : Hid ((Try.prog.info? 51).map (·.size) = some 3) := by show _ = _; kernel_rfl
      have HRR := Lib.hid (((HYL.out.set 0 (.int .i64 win)).set 1 (.int .i64 pr)).set 2 (.slice av P.length cv))
      have hs : Fr (fun k => k = y) wr (((wr.setCell ⟨y, 0, none⟩ (.int .i64 win)).setCell ⟨y, 1, none⟩ (.int .i64 pr)).setCell ⟨y, 2, none⟩ (.slice av P.length cv)) := ((Fr.set (S := fun k => k = y) _ _ _ _ rfl).trans (Fr.set (S := fun k => k = y) _ _ _ _ rfl)).trans (Fr.set (S := fun k => k = y) _ _ _ _ rfl)
      refine bodyPost_ret (v := .agg #[.int .i64 win, .int .i64 pr, .slice av P.length cv]) (results_cell_row rfl _ _ y 51 _ (0, 0) _ rfl HRR.out Try.underlying51 rfl HS3.out) rfl ⟨av, ⟨cv, rfl⟩, HPA.out.fr hs (fun b off e e2 => by have := HLO.out b off e; have := HZX.out.2.1; omega), ?_⟩
      exact ((HR9.out.fr.mono fun _ _ e => e.elim).trans hs).mono fun k hk e => by have := HZX.out.2.2.2; omega
end Go.Proofs.Ytbjpaemldnoinaa
