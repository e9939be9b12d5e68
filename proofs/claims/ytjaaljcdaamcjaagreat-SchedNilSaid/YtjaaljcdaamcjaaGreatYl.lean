/- The contract of around, the walk along one list of a queue. -/
import Derived.Test.YtjaaljcdaamcjaaGreatYk
import Derived.Test.YtjaaljcdaamcjaaGreatYa
namespace Go.Proofs.YtjaaljcdaamcjaaGreat.Rd
open Go.RowKit Go.Shelf
set_option linter.unusedVariables false
attribute [local go_sem] Oper.semAt_some

theorem around_any (B h : Nat) (w : World) : Calls Tryz.prog 164 #[.pointer (some ⟨B, 0, none⟩), .int .i64 h] w fun e w' => e = .returned (.func (.func 188) #[] #[.pointer (some ⟨w.heap.size + 1, 0, none⟩), .pointer (some ⟨w.heap.size, 0, none⟩)]) ∧ w' = (w.alloc (.cells #[.pointer (some ⟨B, 0, none⟩)] 250)).alloc (.cells #[.int .i64 h] 3) := by
  go_enter Tryz.func164, Tryz.ntmps164
  go_wp2
  go_ret
  exact ⟨rfl, rfl⟩

/-- These blocks of cells stay as they are. -/
def KpC (S : List Nat) (W W' : World) : Prop := ∀ k, k ∈ S → ∀ cs t, RowAt W k t cs → RowAt W' k t cs
theorem KpC.t {S : List Nat} {X Y Z : World} (h : KpC S X Y) (k : KpC S Y Z) : KpC S X Z := fun i hi cs t hr => k i hi cs t (h i hi cs t hr)
theorem KpC.b {S : List Nat} (W : World) (l : Nat) (o o' : Obj) (h : W.heap[l]? = some o) (ho : o.isCells = false) : KpC S W (W.putObj l o') := fun i _ cs t hr =>
  hr.kept (grownBy_putObj' W l o') (fun e => by
    have hh : W.heap[i]? = some (.cells cs t (0, 0)) := hr
    obtain rfl : i = l := by simpa using e
    rw [hh] at h; cases h; cases ho)

/-- What is still to come of a list behind its part pre. -/
theorem seg_next {a b : Nat → Nat} {h : Nat} {r pre rest : List Nat} {x : Nat} (hr : Ring a b (h :: r)) (e : h :: r = pre ++ x :: rest) : a x = (rest ++ [h]).headD 0 := by
  cases pre with
  | nil =>
    obtain ⟨rfl, rfl⟩ := List.cons.inj e
    cases r with
    | nil => exact (hr : Lk a b h h).1
    | cons z r => exact (hr : Lk a b h z ∧ _).1.1
  | cons y pre =>
    obtain ⟨rfl, rfl⟩ := List.cons.inj e
    obtain ⟨_, h2⟩ := seg_app.1 (hr : seg a b h (pre ++ x :: rest) h)
    cases rest with
    | nil => exact (h2 : Lk a b x h).1
    | cons z r => exact (h2 : Lk a b x z ∧ _).1.1

set_option maxRecDepth 100000 in
set_option maxHeartbeats 2000000 in
theorem around1_in (n : Nat) (hn : 1 ≤ n) (l B b1 b2 : Nat) (q : QS) (h : Nat) (r : List Nat) (hr : Ring q.after q.before (h :: r)) (hnd : (h :: r).Nodup) (hlt : ∀ x ∈ h :: r, x < 256) (J Jx : List Nat → World → Prop)
    (hY : ∀ (pre : List Nat) (x : Nat) W, J pre W → pre ++ [x] <+: h :: r → YieldAt Fence.wide (n - 1) Tryz.prog l #[.int .i64 (x : Int)] W fun e W' =>
      (e = .returned (.bool true) ∧ J (pre ++ [x]) W' ∧ KpC [B, b1, b2] W W') ∨ (e = .returned (.bool false) ∧ Jx (pre ++ [x]) W'))
    (W : World) (h1 : RowAt W b1 3 #[.int .i64 (h : Int)]) (h2 : RowAt W b2 250 #[.pointer (some ⟨B, 0, none⟩)]) (hq : QAt W B q) (h0 : J [] W) :
    CallsIn Fence.wide n Tryz.prog 188 #[.func (.yield l) #[] #[], .pointer (some ⟨b1, 0, none⟩), .pointer (some ⟨b2, 0, none⟩)] W fun e W' => (∃ v, e = .returned v) ∧
      ((∃ ys, ys = h :: r ∧ J ys W') ∨ (∃ pre, pre <+: h :: r ∧ Jx pre W')) := by
  have HR := Lib.hid hr
  have HND := Lib.hid hnd
  have HLT := Lib.hid hlt
  have H1 := Lib.hid h1
  have H2 := Lib.hid h2
  have HQ := Lib.hid hq
  have c1 : W.cell? ⟨b1, 0, none⟩ = some (.int .i64 h) := h1.cell 0
  clear hr hnd hlt h1 h2 hq
  refine callsIn_of_wp Tryz.func188 rfl trivial ?_ rfl
  simp only [Tryz.ntmps188, List.size_toArray, List.length_cons, List.length_nil, Nat.reduceAdd, Nat.reduceSub, Array.replicate_succ, Array.replicate_zero, List.push_toArray, List.append_toArray, List.nil_append, List.cons_append]
  gi_wp2
  gi_loopw [4] (fun p wr => ∃ (pre rest : List Nat) (x : Nat), p = .int .i64 x ∧ Hid (h :: r = pre ++ x :: rest) ∧ J pre wr ∧ Hid (RowAt wr b1 3 #[.int .i64 (h : Int)] ∧ RowAt wr b2 250 #[.pointer (some ⟨B, 0, none⟩)] ∧ QAt wr B q))
    (fun p wr => (h :: r).length - (h :: r).idxOf (intOf p).toNat)
  case atStart => exact ⟨[], r, h, rfl, rfl, h0, H1.out, H2.out, HQ.out⟩
  case round =>
    obtain ⟨pre, rest, x, rfl, HE, hJ, HW⟩ := hrel
    have hlen : pre ++ [x] <+: h :: r := ⟨rest, by rw [HE.out]; simp⟩
    obtain ⟨fn, tmps, assign, body, hy, hRd⟩ := hY pre x wr hJ hlen
    clear hlen hJ
    gi_wp2
    refine hRd.mono ?_
    rintro e W3 (⟨rfl, hJ3, hk3⟩ | ⟨rfl, hJx3⟩)
    · have HJ3 := Lib.hid hJ3
      have HW3 : Hid (RowAt W3 b1 3 #[.int .i64 (h : Int)] ∧ RowAt W3 b2 250 #[.pointer (some ⟨B, 0, none⟩)] ∧ QAt W3 B q) :=
        ⟨hk3 b1 (by simp) _ _ HW.out.1, hk3 b2 (by simp) _ _ HW.out.2.1, hk3 B (by simp) _ _ HW.out.2.2⟩
      have hx : x < 256 := HLT.out x (by rw [HE.out]; simp)
      have k1 : W3.cell? ⟨b1, 0, none⟩ = some (.int .i64 h) := HW3.out.1.cell 0
      have k2 : W3.cell? ⟨b2, 0, none⟩ = some (.pointer (some ⟨B, 0, none⟩)) := HW3.out.2.1.cell 0
      have k3 : W3.cell? ⟨B, x, none⟩ = some (.int .i64 ((rest ++ [h]).headD 0 : Nat)) := by rw [HW3.out.2.2.after x hx, seg_next HR.out HE.out]
      have x0 : (0 : Int) ≤ x := by omega
      have x1 : (x : Int) < 256 := by omega
      clear hJ3 hk3 hx
      cases rest with
      | nil =>
        have k3' : W3.cell? ⟨B, x, none⟩ = some (.int .i64 h) := k3
        have hh : ((h : Int) == h) = true := by simp
        clear k3
        gi_wp2
        refine bodyPost_ret (results_none rfl _ _ _) rfl ?_
        exact ⟨⟨_, rfl⟩, .inl ⟨pre ++ [x], HE.out.symm, HJ3.out⟩⟩
      | cons z rest =>
        have k3' : W3.cell? ⟨B, x, none⟩ = some (.int .i64 z) := k3
        have hzh : z ≠ h := fun e => by
          have hn := HND.out
          have he := HE.out
          subst e
          cases pre with
          | nil => obtain ⟨rfl, rfl⟩ := List.cons.inj he; simp at hn
          | cons y pre => obtain ⟨rfl, rfl⟩ := List.cons.inj he; simp at hn
        have hh : ((z : Int) == h) = false := beq_eq_false_iff_ne.2 (by omega)
        have HE2 : Hid (h :: r = (pre ++ [x]) ++ z :: rest) := by show _ = _; rw [HE.out]; simp
        have HM : Hid ((h :: r).idxOf x < (h :: r).idxOf z ∧ (h :: r).idxOf z < (h :: r).length) := by
          have hn := HND.out
          have he := HE.out
          have hmz : z ∈ h :: r := by rw [he]; simp
          refine ⟨?_, List.idxOf_lt_length_iff.2 hmz⟩
          rw [he] at hn ⊢
          have hxp : x ∉ pre := fun h => by rw [List.nodup_append] at hn; exact hn.2.2 _ h _ (by simp) rfl
          have hzp : z ∉ pre := fun h => by rw [List.nodup_append] at hn; exact hn.2.2 _ h _ (by simp) rfl
          have hzx : z ≠ x := fun e => by subst e; rw [List.nodup_append] at hn; simp at hn
          rw [List.idxOf_append, List.idxOf_append, if_neg hxp, if_neg hzp, List.idxOf_cons_self, List.idxOf_cons]
          have hb : (x == z) = false := by simpa using Ne.symm hzx
          rw [hb]; simp only [cond_false]; omega
        clear k3 hzh
        gi_wp2
        go_roundw
        case rel => exact ⟨pre ++ [x], rest, z, rfl, HE2, HJ3.out, HW3⟩
        case measure =>
          have e1 : ∀ y : Nat, (intOf (Value.int .i64 (y : Int))).toNat = y := fun y => by simp [intOf]
          show (h :: r).length - (h :: r).idxOf (intOf (Value.int .i64 (z : Int))).toNat < (h :: r).length - (h :: r).idxOf (intOf (Value.int .i64 (x : Int))).toNat
          rw [e1, e1]; have := HM.out; omega
    · gi_wp2
      go_end0
      exact ⟨⟨_, rfl⟩, .inr ⟨pre ++ [x], ⟨rest, by rw [HE.out]; simp⟩, hJx3⟩⟩
theorem around1_word (n : Nat) (hn : 1 ≤ n) (B b1 b2 : Nat) (q : QS) (h : Nat) (r : List Nat) (hr : Ring q.after q.before (h :: r)) (hnd : (h :: r).Nodup) (hlt : ∀ x ∈ h :: r, x < 256) (w : World)
    (h1 : RowAt w b1 3 #[.int .i64 (h : Int)]) (h2 : RowAt w b2 250 #[.pointer (some ⟨B, 0, none⟩)]) (hq : QAt w B q) :
    SeqWord Fence.wide n Tryz.prog 188 #[.pointer (some ⟨b1, 0, none⟩), .pointer (some ⟨b2, 0, none⟩)] (fun x : Nat => #[Value.int .i64 (x : Int)]) (KpC [B, b1, b2]) (fun ys => ys = h :: r) (fun pre => pre <+: h :: r) w := fun l J Jx W hsz hg _ _ hY h0 =>
  around1_in n hn l B b1 b2 q h r hr hnd hlt J Jx (fun pre x W1 hj hp => (hY pre x W1 hj hp).mono fun e W' hh => by
    rcases hh with hh | hh
    · exact .inl hh
    · exact .inr ⟨hh.1, hh.2.1⟩) W (h1.kept hg (by simp)) (h2.kept hg (by simp)) (RowAt.kept hq hg (by simp)) h0
end Go.Proofs.YtjaaljcdaamcjaaGreat.Rd
