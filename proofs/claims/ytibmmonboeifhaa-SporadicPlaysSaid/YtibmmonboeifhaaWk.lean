/- The statement's same. -/
import Derived.Test.YtibmmonboeifhaaWh
namespace Go.Proofs.Ytibmmonboeifhaa
open Go.RowKit
set_option linter.unusedVariables false

theorem LiN.fr {W W' : World} {g : Nat} {l : List (Int × Int)} (h : LiN W g l) (hf : Fr (fun _ => False) W W') : LiN W' g l := fun i x hx => by
  obtain ⟨h1, h2⟩ := h i x hx
  have hlt : g < W.heap.size := World.block_lt_of_cell? W _ h1
  have e : ∀ j, W'.cell? ⟨g, j, none⟩ = W.cell? ⟨g, j, none⟩ := fun j => World.cell?_of_block (hf.block g hlt id)
  rw [e, e]
  exact ⟨h1, h2⟩
set_option maxRecDepth 100000 in
set_option maxHeartbeats 1000000 in
theorem same_any {W : World} {g lo : Nat} {v : Value} {l : List (Int × Int)} (ha : LiN W g l) (hb : W.ownsRow lo 105 2 v l.length (encP l)) (hl : l.length ≤ 32) : Calls Try.prog 31 #[.slice (some ⟨g, 0, none⟩) l.length l.length, v] W fun e w' => e = .returned (.bool true) ∧ Fr (fun _ => False) W w' := by
  have HA := Lib.hid ha
  have HB := Lib.hid hb
  have HL := Lib.hid hl
  obtain ⟨pb, cb, hv⟩ := own_shape hb
  subst hv
  have l0 : (0 : Int) ≤ l.length := by omega
  have l1 : (l.length : Int) ≤ 32 := by omega
  clear ha hb hl
  go_enter Try.func31, Try.ntmps31
  go_wp2
  go_loopw [5] (fun vi wr => ∃ k : Nat, vi = .int .i64 k ∧ Hid (k ≤ l.length ∧ Fr (fun _ => False) W wr)) (fun vi _ => l.length - (intOf vi).toNat)
  case atStart => exact ⟨0, rfl, Nat.zero_le _, Fr.refl _ _⟩
  case round =>
    obtain ⟨k, rfl, HR⟩ := hrel
    by_cases hk : k < l.length
    · obtain ⟨g2, cap, hv, _, _, hcells, _⟩ := own_some (own_fr2 HB.out HR.out.2 (fun _ _ => id)) (by omega)
      injection hv with hv
      subst hv
      have hx : l[k]? = some l[k] := List.getElem?_eq_getElem hk
      obtain ⟨a0, a1⟩ := HA.out.fr HR.out.2 k _ hx
      obtain ⟨b0, b1⟩ := hcells k _ hx
      generalize l[k] = x at a0 a1 b0 b1
      have HK := Lib.hid hk
      have i0 : (0 : Int) ≤ k := by omega
      have i1 : (k : Int) < l.length := by omega
      have hs1 : (x.1 != x.1) = false := by simp
      have hs2 : (x.2 != x.2) = false := by simp
      clear hk hx hcells
      go_upto_region 6 with (fail)
      go_region
      go_wp2
      go_roundw
      case rel => exact ⟨k + 1, rfl, HK.out, HR.out.2.trans (Fr.drew _ _)⟩
      case measure =>
        have := HK.out
        show l.length - (intOf (Value.int .i64 ((k : Int) + 1))).toNat < l.length - (intOf (Value.int .i64 (k : Int))).toNat
        simp only [intOf]
        omega
    · have hk' : k = l.length := by have := HR.out.1; omega
      subst hk'
      have hlt : ¬ (l.length : Int) < l.length := by omega
      clear hk
      go_wp2
      go_ret
      exact ⟨rfl, HR.out.2⟩
end Go.Proofs.Ytibmmonboeifhaa
