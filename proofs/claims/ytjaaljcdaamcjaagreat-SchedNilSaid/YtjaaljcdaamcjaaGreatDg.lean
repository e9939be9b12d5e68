/- Package sched: parameters that are valid. -/
import Derived.Test.YtjaaljcdaamcjaaGreatDf
import Derived.Laws.Tables
import Derived.Laws.Rows
import Derived.Deep.WholeRow
import Derived.WalkSmall
namespace Go.Proofs.YtjaaljcdaamcjaaGreat
open Go.RowKit Go.Proofs.YtjaaljcdaamcjaaGreat.Pa
set_option linter.unusedVariables false

def isThrB (t : Int) : Bool := decide (0 ≤ t) && decide (t < 256)
def isPriB (t : Int) : Bool := decide (0 ≤ t) && decide (t ≤ 255)
theorem isthread_any (t : Int) (w : World) : Calls Tryz.prog 68 #[.int .i64 t] w fun e w' => e = .returned (.bool (isThrB t)) ∧ w = w' := by
  by_cases h : 0 ≤ t
  · go_enter Tryz.func68, Tryz.ntmps68
    go_wp2
    go_ret
    exact ⟨by simp [isThrB, h], rfl⟩
  · have h' : decide (0 ≤ t) = false := by simpa using h
    go_enter Tryz.func68, Tryz.ntmps68
    go_wp2
    go_ret
    exact ⟨by simp [isThrB, h'], rfl⟩
theorem ispriority_any (t : Int) (w : World) : Calls Tryz.prog 69 #[.int .i64 t] w fun e w' => e = .returned (.bool (isPriB t)) ∧ w = w' := by
  by_cases h : 0 ≤ t
  · go_enter Tryz.func69, Tryz.ntmps69
    go_wp2
    go_ret
    exact ⟨by simp [isPriB, h], rfl⟩
  · have h' : decide (0 ≤ t) = false := by simpa using h
    go_enter Tryz.func69, Tryz.ntmps69
    go_wp2
    go_ret
    exact ⟨by simp [isPriB, h'], rfl⟩
theorem ismask_ok (t : Int) (h1 : 0 < t) (h2 : t < 256) (w : World) : Calls Tryz.prog 116 #[.int .i64 t] w fun e w' => e = .returned (.bool true) ∧ w = w' := by
  have h2' : decide (t < 256) = true := by simpa using h2
  go_enter Tryz.func116, Tryz.ntmps116
  go_wp2
  go_ret
  exact ⟨by first | rfl | simp [h2'], rfl⟩
def srv0 : Array Value := #[.int .i64 0, .int .i64 0, .int .i64 0, .int .i64 0]
theorem noserver_zero (w : World) : Calls Tryz.prog 148 #[.agg srv0] w fun e w' => e = .returned (.bool true) ∧ Fr Non w w' := by
  unfold srv0
  go_enter Tryz.func148, Tryz.ntmps148
  go_wp2
  go_ret
  exact ⟨rfl, frA (Fr.refl _ _)⟩
def fnV (f : Nat) : Value := .func (.func f) #[] #[]
def pol0A : Array Value := #[.int .i64 0, .int .i64 0, .nilFunc, .nilFunc, .int .i64 0, .int .i64 0, .nilFunc, .nilFunc, .int .i64 0, .int .i64 0, .nilFunc, .nilFunc]
def polA : Array Value := #[.int .i64 0, .int .i64 0, fnV 148, fnV 149, .int .i64 1, .int .i64 1000, fnV 148, fnV 150, .int .i64 0, .int .i64 0, fnV 151, fnV 152]
theorem polA_size : (Tryz.prog.info? 189).map (·.size) = some polA.size := by kernel_rfl
theorem polA_one : polA.all (·.oneCell') = true := by decide +kernel
set_option maxRecDepth 100000 in
theorem policies_any (w : World) : Calls Tryz.prog 110 #[] w fun e w' => e = .returned (.agg polA) ∧ Fr Non w w' := by
  have HS := Lib.hid polA_size
  go_enter Tryz.func110, Tryz.ntmps110
  go_upto_region 1 with (fail)
  have HR : Hid (RowAt (w.alloc (.cells pol0A 189)) w.heap.size 189 pol0A) := RowAt.new _ _ _
  have HF : Hid (Fr Non w (w.alloc (.cells pol0A 189))) := frA (Fr.refl _ _)
  obtain ⟨g, hg⟩ : ∃ g, w.heap.size = g := ⟨_, rfl⟩
  have HG := Lib.hid hg
  rw [hg] at HR ⊢
  clear hg
  go_wp2_with (refine wpList_store_row rfl 189 (Operand.tmp 0) (Operand.tmp 4) rfl g polA rfl rfl 189 pol0A HR.out HS.out rfl polA_one ?_)
  refine bodyPost_ret (v := .agg polA) (results_cell_row rfl _ _ g 189 polA (0, 0) _ rfl (setRow_heap _ _ _ _ _ _ HR.out) Tryz.underlying189 rfl HS.out) rfl ⟨rfl, ?_⟩
  exact Fr.over HF.out (Fr.setRow (S := fun k => k = g) _ _ _ rfl) (fun i e => .inr (by have := HG.out; omega))
def polF : Array Value := #[.int .i64 0, .int .i64 0, .func (.func 148) #[] #[], .func (.func 149) #[] #[]]
theorem polF_size : (Tryz.prog.info? 188).map (·.size) = some polF.size := by kernel_rfl
theorem polF_one : polF.all (·.oneCell') = true := by decide +kernel
/-- Parameters of the first two policies that are valid where there are np partitions. -/
structure PS.Ok (p : PS) (np : Nat) : Prop where
  pol : p.pol = 0 ∧ p.sli = 0 ∨ p.pol = 1 ∧ 1 ≤ p.sli ∧ p.sli ≤ 1000
  srv : p.sb = 0 ∧ p.sp = 0 ∧ p.sn = 0 ∧ p.sl = 0
  msk : 0 < p.msk ∧ p.msk < 256
  prt : 0 ≤ p.prt ∧ p.prt < np
set_option maxRecDepth 100000 in
set_option maxHeartbeats 2000000 in
theorem isvalid_fifo (prt msk : Int) (cri : Bool) (np : Nat) (hm : 0 < msk ∧ msk < 256) (hp : 0 ≤ prt ∧ prt < np) (w : World) : Calls Tryz.prog 70 #[.agg (PS.mk 0 0 msk prt cri 0 0 0 0).cells, .int .i64 (np : Int)] w fun e w' => e = .returned (.bool true) ∧ Fr Non w w' := by
  have HM := Lib.hid (ismask_ok msk hm.1 hm.2)
  obtain ⟨hp1, hp2⟩ := hp
  clear hm
  unfold PS.cells
  go_enter Tryz.func70, Tryz.ntmps70
  go_upto_region 1 with (fail)
  have HR1 : Hid (RowAt (w.alloc (.cells #[.int .i64 0, .int .i64 0, .int .i64 msk, .int .i64 prt, .bool cri, .int .i64 0, .int .i64 0, .int .i64 0, .int .i64 0] 41)) w.heap.size 41 #[.int .i64 0, .int .i64 0, .int .i64 msk, .int .i64 prt, .bool cri, .int .i64 0, .int .i64 0, .int .i64 0, .int .i64 0]) := RowAt.new _ _ _
  have HF1 : Hid (Fr Non w (w.alloc (.cells #[.int .i64 0, .int .i64 0, .int .i64 msk, .int .i64 prt, .bool cri, .int .i64 0, .int .i64 0, .int .i64 0, .int .i64 0] 41))) := frA (Fr.refl _ _)
  generalize w.alloc _ = W1 at HR1 HF1 ⊢
  obtain ⟨x, hx⟩ : ∃ x, w.heap.size = x := ⟨_, rfl⟩
  have HX := Lib.hid hx
  rw [hx] at HR1 ⊢
  clear hx
  have HS := Lib.hid polA_size
  have HS4 := Lib.hid polF_size
  go_upto_region 2 with (first
    | (go_at_call 110; refine (policies_any _).mono ?_; rintro e w2 ⟨rfl, f2⟩; have F2 := Lib.hid f2; clear f2)
    | (refine wpList_store_row rfl 189 (Operand.tmp 5) (Operand.tmp 7) rfl w2.heap.size polA rfl rfl 189 pol0A (RowAt.new w2 _ _) HS.out rfl polA_one ?_; rw [World.setRow_alloc_new]))
  have HR3 : Hid (RowAt (w2.alloc (.cells polA 189)) w2.heap.size 189 polA) := RowAt.new _ _ _
  have HF3 : Hid (Fr Non W1 (w2.alloc (.cells polA 189))) := frA F2.out
  generalize w2.alloc _ = W3 at HR3 HF3 ⊢
  generalize w2.heap.size = g at HR3 ⊢
  have HP3 := Lib.hid (HR1.out.fr HF3.out id)
  have c0 : W3.cell? ⟨x, 0, none⟩ = some (.int .i64 0) := HP3.out.cell 0
  have d0 : W3.cell? ⟨g, 0, none⟩ = some (.int .i64 0) := HR3.out.cell 0
  have d1 : W3.cell? ⟨g, 1, none⟩ = some (.int .i64 0) := HR3.out.cell 1
  have d2 : W3.cell? ⟨g, 2, none⟩ = some (.func (.func 148) #[] #[]) := HR3.out.cell 2
  have d3 : W3.cell? ⟨g, 3, none⟩ = some (.func (.func 149) #[] #[]) := HR3.out.cell 3
  go_upto_region 5 with (refine wpList_store_row rfl 188 (Operand.tmp 6) (Operand.tmp 19) rfl W3.heap.size polF rfl rfl 188 #[.int .i64 0, .int .i64 0, .nilFunc, .nilFunc] (RowAt.new W3 _ _) HS4.out rfl polF_one ?_; rw [World.setRow_alloc_new])
  have HR4 : Hid (RowAt (W3.alloc (.cells polF 188)) W3.heap.size 188 polF) := RowAt.new _ _ _
  have HF4 : Hid (Fr Non W1 (W3.alloc (.cells polF 188))) := frA HF3.out
  clear c0 d0 d1 d2 d3
  generalize W3.alloc _ = W4 at HR4 HF4 ⊢
  generalize W3.heap.size = h at HR4 ⊢
  have HP4 := Lib.hid (HR1.out.fr HF4.out id)
  have c1 : W4.cell? ⟨x, 1, none⟩ = some (.int .i64 0) := HP4.out.cell 1
  have c2 : W4.cell? ⟨x, 2, none⟩ = some (.int .i64 msk) := HP4.out.cell 2
  have c3 : W4.cell? ⟨x, 3, none⟩ = some (.int .i64 prt) := HP4.out.cell 3
  have c5 : W4.cell? ⟨x, 5, none⟩ = some (.int .i64 0) := HP4.out.cell 5
  have c6 : W4.cell? ⟨x, 6, none⟩ = some (.int .i64 0) := HP4.out.cell 6
  have c7 : W4.cell? ⟨x, 7, none⟩ = some (.int .i64 0) := HP4.out.cell 7
  have c8 : W4.cell? ⟨x, 8, none⟩ = some (.int .i64 0) := HP4.out.cell 8
  have d0 : W4.cell? ⟨h, 0, none⟩ = some (.int .i64 0) := HR4.out.cell 0
  have d1 : W4.cell? ⟨h, 1, none⟩ = some (.int .i64 0) := HR4.out.cell 1
  have d2 : W4.cell? ⟨h, 2, none⟩ = some (.func (.func 148) #[] #[]) := HR4.out.cell 2
  have b1 : decide (0 ≤ prt) = true := by simpa using hp1
  have b2 : decide (prt < (np : Int)) = true := by simpa using hp2
  go_wp2_with (first
    | (go_at_call 148; refine (noserver_zero _).mono ?_; rintro e W5 ⟨rfl, f5⟩; have F5 := Lib.hid f5; clear f5; have k2 : W5.cell? ⟨x, 2, none⟩ = some (.int .i64 msk) := (HP4.out.fr F5.out id).cell 2; have k3 : W5.cell? ⟨x, 3, none⟩ = some (.int .i64 prt) := (HP4.out.fr F5.out id).cell 3)
    | (go_at_call 116; refine (HM.out _).mono ?_; rintro e W6 ⟨rfl, f6⟩; subst f6))
  go_ret
  exact ⟨rfl, (HF1.out.trans HF4.out).trans F5.out⟩
end Go.Proofs.YtjaaljcdaamcjaaGreat
