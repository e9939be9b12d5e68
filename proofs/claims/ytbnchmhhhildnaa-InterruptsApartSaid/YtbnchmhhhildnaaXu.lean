/- Interrupts: the example of the chapter. -/
import Derived.Test.YtbnchmhhhildnaaXt
namespace Go.Proofs.Ytbnchmhhhildnaa
open Go.RowKit Go.Maps
set_option linter.unusedVariables false

abbrev aw0 (d : Nat) : IL := ⟨d, [], false, 0⟩
abbrev awA : Tm := ⟨3, 1, 1, 0, 0, 0, 0⟩
abbrev awB : Tm := ⟨3, 2, 0, 0, 0, 0, 0⟩
def awS1 (cs : List Nat) (d : Nat) : IS := attS (newS cs) 3 (aw0 d) false awA
abbrev aw1 (d : Nat) : IL := ⟨d, [0], false, 0⟩
def awS2 (cs : List Nat) (d : Nat) : IS := attS (awS1 cs d) 3 (aw1 d) false awB
abbrev aw2 (d : Nat) : IL := ⟨d, [0, 1], false, 0⟩
def awS3 (cs : List Nat) (d : Nat) : IS := setLs (awS2 cs d) 3 { (aw2 d) with p := true }
abbrev aw3 (d : Nat) : IL := ⟨d, [0, 1], true, 0⟩
theorem aw_parts (a b c d : Nat) : (newS [a, b, c, d]).ls[3]? = some (aw0 d) ∧ lf (newS [a, b, c, d]).att = 0 ∧ (awS1 [a, b, c, d] d).ls[3]? = some (aw1 d) ∧ lf (awS1 [a, b, c, d] d).att = 1 ∧ (awS2 [a, b, c, d] d).ls[3]? = some (aw2 d) ∧ (awS3 [a, b, c, d] d).ls[3]? = some (aw3 d) ∧ (awS3 [a, b, c, d] d).ls.length = 4 := by
  refine ⟨rfl, rfl, rfl, rfl, rfl, rfl, rfl⟩
theorem aw_ok (a b c d : Nat) : IOk (newS [a, b, c, d]) ∧ IOk (awS1 [a, b, c, d] d) ∧ IOk (awS2 [a, b, c, d] d) ∧ IOk (awS3 [a, b, c, d] d) := by
  obtain ⟨h1, h2, h3, h4, h5, h6, h7⟩ := aw_parts a b c d
  have k0 : IOk (newS [a, b, c, d]) := newS_ok (by simp) (by simp)
  have k1 : IOk (awS1 [a, b, c, d] d) := k0.attNew h1 false rfl (by simp) (by simp [newS])
  have k2 : IOk (awS2 [a, b, c, d] d) := k1.attNew h3 false rfl (by simp) (by show (List.length _) < 100; simp [awS1, attS, newS, ins])
  exact ⟨k0, k1, k2, k2.setL h5 rfl⟩
theorem aw_dA (a b c d : Nat) : dA (awS3 [a, b, c, d] d) 4 = (dlS (awS3 [a, b, c, d] d) 3 (aw3 d), (dQ (awS3 [a, b, c, d] d) 3 [0, 1]).2.2) := by
  have e1 : dA (awS3 [a, b, c, d] d) 1 = (awS3 [a, b, c, d] d, []) := dA_miss (l := ⟨a, [], false, 0⟩) rfl (.inl rfl)
  have e2 : dA (awS3 [a, b, c, d] d) 2 = (awS3 [a, b, c, d] d, []) := (dA_miss (k := 1) (l := ⟨b, [], false, 0⟩) (by rw [e1]; rfl) (.inl rfl)).trans e1
  have e3 : dA (awS3 [a, b, c, d] d) 3 = (awS3 [a, b, c, d] d, []) := (dA_miss (k := 2) (l := ⟨c, [], false, 0⟩) (by rw [e2]; rfl) (.inl rfl)).trans e2
  have e4 := dA_hit (s := awS3 [a, b, c, d] d) (k := 3) (l := aw3 d) (by rw [e3]; rfl) rfl (by rw [e3]; rfl)
  rw [e3] at e4
  rw [e4]; rfl
theorem aw_dQ (a b c d : Nat) : (dQ (awS3 [a, b, c, d] d) 3 [0, 1]).2.2 = [⟨0, 3, 1, 1, 0, 0, 0, 0, false⟩, ⟨1, 3, 2, 0, 0, 0, 0, 0, false⟩] := by rfl
theorem aw_sum (a b c d : Nat) : sumI (dlS (awS3 [a, b, c, d] d) 3 (aw3 d)) 3 = 1 := by
  have e1 : ordL (dlS (awS3 [a, b, c, d] d) 3 (aw3 d)) 3 = [0, 1] := rfl
  unfold sumI
  rw [e1]
  have e2 : (dlS (awS3 [a, b, c, d] d) 3 (aw3 d)).cn = fun z => upd (fun _ => 0) ((3 : Int), (0 : Int)) 1 z := rfl
  unfold sumL
  rw [e2]
  simp [slq, upd]
end Go.Proofs.Ytbnchmhhhildnaa
