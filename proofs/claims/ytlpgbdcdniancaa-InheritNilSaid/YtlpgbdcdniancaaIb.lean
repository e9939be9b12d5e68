/- InheritNil's walk. -/
import Derived.Test.YtlpgbdcdniancaaIa
namespace Go.Proofs.Ytlpgbdcdniancaa
open Go.RowKit
set_option linter.unusedVariables false

def actA (d x y : Int) (ce : Option Addr) (m c : Nat) : Array Value := #[.int .u8 d, .int .i64 x, .int .i64 y, .slice ce m c]
theorem size_act : (Try.prog.info? 52).map (·.size) = some 4 := by kernel_rfl
set_option maxRecDepth 100000 in
set_option maxHeartbeats 1000000 in
theorem step_nil (d x y : Int) (ce : Option Addr) (m c : Nat) (W : World) (hd0 : 0 ≤ d) (hd1 : d < 256) : Calls Try.prog 22 #[.pointer none, .pointer none, .agg (actA d x y ce m c)] W fun e w' => e = .returned (.bool true) ∧ Fr No W w' := by
  have HR0 := Lib.hid (RowAt.new W 52 (actA d x y ce m c))
  have HF0 : Hid (Fr No W (W.alloc (.cells (actA d x y ce m c) 52))) := Fr.alloc _ _ _
  unfold actA at HR0 HF0 ⊢
  go_enter Try.func22, Try.ntmps22
  go_upto_region 1 with (fail)
  generalize World.alloc W _ = W1 at HR0 HF0 ⊢
  generalize W.heap.size = b at HR0 ⊢
  have c1 : W1.cell? ⟨b, 1, none⟩ = some (.int .i64 x) := HR0.out.cell 1
  have c2 : W1.cell? ⟨b, 2, none⟩ = some (.int .i64 y) := HR0.out.cell 2
  go_upto_region 2 with (fail)
  clear c1 c2
  have HE := Lib.hid (RowAt.new W1 39 #[.int .i64 x, .int .i64 y])
  have HF1 : Hid (Fr No W1 (W1.alloc (.cells #[.int .i64 x, .int .i64 y] 39))) := Fr.alloc _ _ _
  generalize World.alloc W1 _ = W2 at HE HF1 ⊢
  generalize W1.heap.size = g at HE ⊢
  have HR2 := Lib.hid (HR0.out.fr HF1.out id)
  have HF2 := Lib.hid (HF0.out.trans HF1.out)
  have c0 : W2.cell? ⟨b, 0, none⟩ = some (.int .u8 d) := HR2.out.cell 0
  have HKK : Hid (∀ w, Fr No W2 w → w.cell? ⟨b, 1, none⟩ = some (.int .i64 x) ∧ w.cell? ⟨b, 2, none⟩ = some (.int .i64 y) ∧ w.cell? ⟨b, 3, none⟩ = some (.slice ce m c)) := fun w f => ⟨(HR2.out.fr f id).cell 1, (HR2.out.fr f id).cell 2, (HR2.out.fr f id).cell 3⟩
  clear HF0 HF1 HR0
  by_cases h2 : d % 6 = 2
  · go_wp2_with (first
      | (refine wpList_load_mid rfl 39 (Operand.tmp 7) rfl g 0 rfl [_, _] _ HE.out.range Try.underlying39 rfl size_edge ?_)
      | (refine wpList_load_mid rfl 39 (Operand.tmp 7) rfl g 0 rfl [_, _] _ (HE.out.fr F3.out id).range Try.underlying39 rfl size_edge ?_)
      | (go_at_call 25; refine (remove_nil x y _).mono ?_; rintro e w3 ⟨rfl, f3⟩; have F3 := Lib.hid f3; clear f3)
      | (go_at_call 46; refine (rremove_nil x y _).mono ?_; rintro e w4 ⟨rfl, f4⟩; have F4 := Lib.hid (F3.out.trans f4); clear f4)
      | (go_at_call 47; refine (changes_nil _).mono ?_; rintro e w5 ⟨rfl, f5⟩; have F5 := Lib.hid (F4.out.trans f5); clear f5))
    go_ret
    exact ⟨rfl, HF2.out.trans F5.out⟩
  have n2 : (d % 6 == 2) = false := by simpa using h2
  by_cases h3 : d % 6 = 3
  · clear h2 n2
    obtain ⟨c1, c2, _⟩ := HKK.out W2 (Fr.refl _ _)
    go_wp2_with (first
      | (go_at_call 26; refine (setbase_nil x y _).mono ?_; rintro e w3 ⟨rfl, f3⟩; have F3 := Lib.hid f3; clear f3 c1 c2; obtain ⟨c1, c2, _⟩ := HKK.out w3 F3.out)
      | (go_at_call 48; refine (rsetbase_nil x y _).mono ?_; rintro e w4 ⟨rfl, f4⟩; have F4 := Lib.hid (F3.out.trans f4); clear f4)
      | (go_at_call 47; refine (changes_nil _).mono ?_; rintro e w5 ⟨rfl, f5⟩; have F5 := Lib.hid (F4.out.trans f5); clear f5))
    go_ret
    exact ⟨rfl, HF2.out.trans F5.out⟩
  have n3 : (d % 6 == 3) = false := by simpa using h3
  by_cases h4 : d % 6 = 4
  · clear h2 n2 h3 n3
    obtain ⟨_, _, c3⟩ := HKK.out W2 (Fr.refl _ _)
    go_wp2_with (first
      | (go_at_call 27; refine (replace_nil _ _).mono ?_; rintro e w3 ⟨rfl, f3⟩; have F3 := Lib.hid f3; clear f3 c3; obtain ⟨_, _, c3⟩ := HKK.out w3 F3.out)
      | (go_at_call 49; refine (rreplace_nil _ _).mono ?_; rintro e w4 ⟨rfl, f4⟩; have F4 := Lib.hid (F3.out.trans f4); clear f4)
      | (go_at_call 47; refine (changes_nil _).mono ?_; rintro e w5 ⟨rfl, f5⟩; have F5 := Lib.hid (F4.out.trans f5); clear f5))
    go_ret
    exact ⟨rfl, HF2.out.trans F5.out⟩
  have n4 : (d % 6 == 4) = false := by simpa using h4
  by_cases h5 : d % 6 = 5
  · clear h2 n2 h3 n3 h4 n4
    obtain ⟨c1, _, _⟩ := HKK.out W2 (Fr.refl _ _)
    go_wp2_with (first
      | (go_at_call 29; refine (teff_nil x _).mono ?_; rintro e w3 ⟨rfl, f3⟩; have F3 := Lib.hid f3; clear f3 c1; obtain ⟨c1, _, _⟩ := HKK.out w3 F3.out)
      | (go_at_call 50; refine (reff_nil x _).mono ?_; rintro e w4 ⟨rfl, f4⟩; have F4 := Lib.hid (F3.out.trans f4); clear f4))
    go_ret
    exact ⟨rfl, HF2.out.trans F4.out⟩
  have n5 : (d % 6 == 5) = false := by simpa using h5
  clear h2 h3 h4 h5
  go_wp2_with (first
    | (refine wpList_load_mid rfl 39 (Operand.tmp 7) rfl g 0 rfl [_, _] _ HE.out.range Try.underlying39 rfl size_edge ?_)
    | (refine wpList_load_mid rfl 39 (Operand.tmp 7) rfl g 0 rfl [_, _] _ (HE.out.fr F3.out id).range Try.underlying39 rfl size_edge ?_)
    | (go_at_call 28; refine (add_nil x y _).mono ?_; rintro e w3 ⟨rfl, f3⟩; have F3 := Lib.hid f3; clear f3)
    | (go_at_call 51; refine (radd_nil x y _).mono ?_; rintro e w4 ⟨rfl, f4⟩; have F4 := Lib.hid (F3.out.trans f4); clear f4)
    | (go_at_call 47; refine (changes_nil _).mono ?_; rintro e w5 ⟨rfl, f5⟩; have F5 := Lib.hid (F4.out.trans f5); clear f5))
  go_ret
  exact ⟨rfl, HF2.out.trans F5.out⟩
set_option maxRecDepth 100000 in
set_option maxHeartbeats 1000000 in
theorem nil_walk (d x y : Int) (ce : Option Addr) (m c : Nat) (W : World) (hd0 : 0 ≤ d) (hd1 : d < 256) : Calls Try.prog 9 #[.agg (actA d x y ce m c)] W fun e w' => e = .returned (.bool true) ∧ Fr No W w' := by
  have HR0 := Lib.hid (RowAt.new W 52 (actA d x y ce m c))
  have HF0 : Hid (Fr No W (W.alloc (.cells (actA d x y ce m c) 52))) := Fr.alloc _ _ _
  have HS := Lib.hid (step_nil d x y ce m c)
  have D0 := Lib.hid hd0
  have D1 := Lib.hid hd1
  unfold actA at HR0 HF0 HS ⊢
  clear hd0 hd1
  go_enter Try.func9, Try.ntmps9
  go_upto_region 1 with (fail)
  generalize World.alloc W _ = W1 at HR0 HF0 ⊢
  generalize W.heap.size = b at HR0 ⊢
  go_upto_region 4 with (go_at_call 23; refine (graph_nil _).mono ?_; rintro e w2 ⟨rfl, f2⟩; have F2 := Lib.hid f2; clear f2)
  have HG := Lib.hid (RowAt.new w2 25 #[.slice none 0 0, .slice none 0 0])
  have HF3 : Hid (Fr No W1 (w2.alloc (.cells #[.slice none 0 0, .slice none 0 0] 25))) := F2.out.trans (Fr.alloc _ _ _)
  generalize World.alloc w2 _ = W3 at HG HF3 ⊢
  generalize w2.heap.size = g at HG ⊢
  have HR3 := Lib.hid (HR0.out.fr HF3.out id)
  go_wp2_with (first
    | (refine wpList_load_mid rfl 52 (Operand.tmp 1) rfl b 0 rfl [_, _, _, _] _ HR3.out.range Try.underlying52 rfl size_act ?_)
    | (go_at_call 22; refine (HS.out _ D0.out D1.out).mono ?_; rintro e w4 ⟨rfl, f4⟩; have F4 := Lib.hid f4; clear f4; have c0 : w4.cell? ⟨g, 0, none⟩ = some (.slice none 0 0) := (HG.out.fr F4.out id).cell 0; have c1 : w4.cell? ⟨g, 1, none⟩ = some (.slice none 0 0) := (HG.out.fr F4.out id).cell 1)
    | (go_at_call 11; refine (awake_any _).mono ?_; rintro e w5 ⟨rfl, f5⟩; have F5 := Lib.hid f5; clear f5))
  go_ret
  exact ⟨rfl, ((HF0.out.trans HF3.out).trans F4.out).trans F5.out⟩
end Go.Proofs.Ytlpgbdcdniancaa
