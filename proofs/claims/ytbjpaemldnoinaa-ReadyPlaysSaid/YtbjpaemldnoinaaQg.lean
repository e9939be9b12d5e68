/- ReadyPlays: the reference's Remove, Take. -/
import Derived.Test.YtbjpaemldnoinaaQf
namespace Go.Proofs.Ytbjpaemldnoinaa
open Go.RowKit
set_option linter.unusedVariables false

/-- What Remove answers, and leaves. -/
def rmE (t : Int) (l : List EnR) : Int × List EnR := if (fndE t l).2 = 0 then (0, l.eraseIdx (fndE t l).1.toNat) else ((fndE t l).2, l)
set_option maxRecDepth 100000 in
set_option maxHeartbeats 1000000 in
theorem rremove_any {W : World} {lo R : Nat} {l : List EnR} (h : RQ lo R l W) (hl : l.length ≤ 256) (t : Int) : Calls Try.prog 37 #[.pointer (some ⟨R, 0, none⟩), .int .i64 t] W (RE lo R (.int .i64 (rmE t l).1) (rmE t l).2 W) := by
  have HH := Lib.hid h
  have HI := Lib.hid (rfind_any h hl t)
  rcases fndE_cases t l with ⟨z, hf, hz⟩ | ⟨i, x, hf, hx, _, _⟩
  · have HV : Hid (rmE t l = (z, l)) := by show _ = _; rw [rmE, hf, if_neg hz]
    rw [HV.out]
    rw [hf] at HI
    have hz' : (z == 0) = false := by simpa using hz
    clear hf hz h
    go_enter Try.func37, Try.ntmps37
    go_wp2_with (go_at_call 80; refine HI.out.mono ?_; rintro e w' ⟨rfl, rfl⟩)
    go_ret
    exact ⟨rfl, HH.out, Fr.refl _ _, Fr.refl _ _⟩
  · have HV : Hid (rmE t l = (0, l.eraseIdx i)) := by
      show _ = _
      rw [rmE, hf, if_pos rfl]
      show ((0 : Int), l.eraseIdx ((i : Int)).toNat) = _
      rw [Int.toNat_natCast]
    rw [HV.out]
    rw [hf] at HI
    have HD := Lib.hid (rdel_fr h hl i (List.getElem?_eq_some_iff.1 hx).1)
    clear hf hx h
    go_enter Try.func37, Try.ntmps37
    go_wp2_with (first
      | (go_at_call 80; refine HI.out.mono ?_; rintro e w' ⟨rfl, rfl⟩)
      | (go_at_call 81; refine HD.out.mono ?_; rintro e W1 ⟨⟨v1, rfl⟩, r1, g1⟩; have R1 := Lib.hid (fr_two HH.out r1.rq g1); clear r1 g1))
    go_ret
    exact ⟨rfl, R1.out⟩
/-- What Take leaves; it answers btE. -/
def tkE (pr : Int) (l : List EnR) : List EnR := if (bstE pr l).2 = 0 then l.eraseIdx (bstE pr l).1.toNat else l
set_option maxRecDepth 100000 in
set_option maxHeartbeats 1000000 in
theorem rtake2_any {W : World} {lo R : Nat} {l : List EnR} (h : RQ lo R l W) (hl : l.length ≤ 256) (hm : ∀ x ∈ l, 0 ≤ x.m ∧ x.m < 256) (pr : Int) : Calls Try.prog 44 #[.pointer (some ⟨R, 0, none⟩), .int .i64 pr] W (RE lo R (.tuple #[.int .i64 (btE pr l).1, .int .i64 (btE pr l).2]) (tkE pr l) W) := by
  have HH := Lib.hid h
  have HI := Lib.hid (rbest_any h hl hm pr)
  rcases bstE_cases pr l with ⟨z, hf, hz⟩ | ⟨i, x, hf, hx⟩
  · have HV : Hid (btE pr l = (0, z) ∧ tkE pr l = l) := by show _ ∧ _; rw [btE, tkE, hf, if_neg hz, if_neg hz]; exact ⟨rfl, rfl⟩
    rw [HV.out.1, HV.out.2]
    rw [hf] at HI
    have hz' : (z != 0) = true := by simpa using hz
    clear hf hz h hm
    go_enter Try.func44, Try.ntmps44
    go_wp2_with (go_at_call 83; refine HI.out.mono ?_; rintro e w' ⟨rfl, rfl⟩)
    go_ret2
    exact ⟨rfl, HH.out, Fr.refl _ _, Fr.refl _ _⟩
  · have HV : Hid (btE pr l = (x.t, 0) ∧ tkE pr l = l.eraseIdx i) := by
      show _ ∧ _
      rw [btE, tkE, hf, if_pos rfl, if_pos rfl]
      show (match l[((i : Int)).toNat]? with | some x => (x.t, (0 : Int)) | none => (0, 0)) = _ ∧ l.eraseIdx ((i : Int)).toNat = _
      rw [Int.toNat_natCast, hx]; exact ⟨rfl, rfl⟩
    rw [HV.out.1, HV.out.2]
    rw [hf] at HI
    have hi : i < l.length := (List.getElem?_eq_some_iff.1 hx).1
    have HD := Lib.hid (rdel_fr h hl i hi)
    obtain ⟨v, h⟩ := h
    obtain ⟨g, cap, hv, _, hcap, hcells, _⟩ := own_someE h.own (by omega)
    subst hv
    have c0 : W.cell? ⟨R, 0, none⟩ = some (.slice (some ⟨g, 0, none⟩) l.length cap) := h.row.cell 0
    have d0 := (hcells i x hx).1
    have i0 : (0 : Int) ≤ i := by omega
    have i1 : (i : Int) < l.length := by omega
    clear hf hx hcells hi h hm
    go_enter Try.func44, Try.ntmps44
    go_wp2_with (first
      | (go_at_call 83; refine HI.out.mono ?_; rintro e w' ⟨rfl, rfl⟩)
      | (go_at_call 81; refine HD.out.mono ?_; rintro e W1 ⟨⟨v1, rfl⟩, r1, g1⟩; have R1 := Lib.hid (fr_two HH.out r1.rq g1); clear r1 g1))
    go_ret2
    exact ⟨rfl, R1.out⟩
end Go.Proofs.Ytbjpaemldnoinaa
