/- Interrupts: remove, Detach. -/
import Derived.Test.YtbnchmhhhildnaaXx
namespace Go.Proofs.Ytbnchmhhhildnaa
open Go.RowKit Go.Maps Go.Lib Go.Sort
set_option linter.unusedVariables false

theorem gives_rm (id x : Int) (E : Nat) (W : World) (hc : W.cell? ⟨E, 0, none⟩ = some (.int .i64 id)) :
    FnGives Try.prog 63 #[.pointer (some ⟨E, 0, none⟩)] #[.int .i64 x] (.bool (x == id)) W := by
  show Calls Try.prog 63 #[.int .i64 x, .pointer (some ⟨E, 0, none⟩)] W _
  go_enter Try.func63, Try.ntmps63
  go_wp2
  all_goals (go_ret; exact ⟨by simp_all, 0, rfl⟩)
theorem enters_rm : ∀ args w, (callFunc 63 args).run Try.prog w = .ok (.enter 63 args) w := enters_of Try.func63 (by kernel_rfl) rfl
theorem RowAt.putRow {W : World} {b : Nat} {t : TypeId} {cs : Array Value} {α : Type} [Inhabited α] (enc : α → Value) (off : Nat) (d : Array α) (h : RowAt W b t cs) : RowAt (Sort.putRow enc W b off d) b t (Sort.putCells enc off d cs) := by
  show (Sort.mapBlock W b _).heap[b]? = _
  unfold Sort.mapBlock
  have h' : W.heap[b]? = some (.cells cs t (0, 0)) := h
  rw [Array.getElem?_modify, if_pos rfl, h']
  rfl
theorem fr_putRow {W : World} {α : Type} [Inhabited α] (enc : α → Value) (b off : Nat) (d : Array α) : Fr (fun k => k = b) W (Sort.putRow enc W b off d) :=
  ⟨rfl, rfl, rfl, by simp, fun k _ hk => by
    show (Sort.mapBlock W b _).heap[k]? = _
    unfold Sort.mapBlock
    rw [Array.getElem?_modify, if_neg (fun e => hk e.symm)]⟩
theorem fr_ahead (W : World) (q : Nat) : Fr No W (Sort.ahead W q) := ⟨rfl, rfl, rfl, Nat.le_refl _, fun _ _ _ => rfl⟩
/-- slices.DeleteFunc(o, x == id). -/
theorem delfn_ok {W : World} {g cap E : Nat} {o : List Int} {id : Int} (h : OL W (.slice (some ⟨g, 0, none⟩) o.length cap) o) (ho : o.length ≤ 1000) (hE : E < W.heap.size) (hne : E ≠ g) (hc : W.cell? ⟨E, 0, none⟩ = some (.int .i64 id)) :
    Calls Try.prog 62 #[.slice (some ⟨g, 0, none⟩) o.length cap, .func (.func 63) #[] #[.pointer (some ⟨E, 0, none⟩)]] W fun e w' => e = .returned (.slice (some ⟨g, 0, none⟩) (o.filter (fun x => !(x == id))).length cap) ∧ OL w' (.slice (some ⟨g, 0, none⟩) (o.filter (fun x => !(x == id))).length cap) (o.filter (fun x => !(x == id))) ∧ Fr (fun k => k = g) W w' := by
  obtain ⟨cur, r1, r2, r3, r4, _⟩ := ol_row h
  have hsz : o.toArray.size = o.length := by simp
  have hH : Holds (Value.int .i64) W g 0 o.toArray := fun j hj => by
    rw [hsz] at hj
    rw [Nat.zero_add]
    refine ⟨?_, r1.frozen _⟩
    rw [OL.cell h (List.getElem?_eq_getElem hj)]
    simp [hj]
  have hcon := Try.slices_DeleteFunc (Value.int .i64) (fun _ => rfl) (fun x => x == id) 63 #[.pointer (some ⟨E, 0, none⟩)] enters_rm 0 Try.zeroValue3 g 0 cap o.toArray W
    (fun W' x hb => gives_rm id x E W' ((hb.cell (p := ⟨E, 0, none⟩) hE).trans hc))
    (fun n os dk x _ => gives_rm id x E _ (by
      unfold sortWorld
      rw [cell?_grow _ _ _ (by show E < (Sort.putRow _ _ _ _ _).heap.size; rw [size_putRow]; exact hE), cell?_putRow_other _ _ g 0 _ _ (Or.inl hne)]
      exact hc)) hH (by rw [hsz]; omega) (by rw [hsz]; exact r4)
  rw [hsz] at hcon
  refine hcon.mono ?_
  simp only []
  generalize hF : List.filter (fun x => !(x == id)) o = F
  rintro e w' ⟨rfl, q, rfl⟩
  have hFl : F.length ≤ o.length := by rw [← hF]; exact List.length_filter_le _ _
  have hH' : Holds (Value.int .i64) (Sort.ahead W q) g 0 o.toArray := hH
  have hr := RowAt.putRow (Value.int .i64) 0 (F ++ List.replicate (o.length - F.length) 0).toArray (show RowAt (Sort.ahead W q) g 3 cur from r1)
  refine ⟨rfl, ol_of hr (by unfold Sort.putCells; simp [r2]) r3 (by omega) (fun i x hi => ?_), (fr_ahead W q).any.trans (fr_putRow _ _ _ _)⟩
  have hil := (List.getElem?_eq_some_iff.1 hi).1
  have := cell?_putRow (Value.int .i64) (Sort.ahead W q) g 0 o.toArray (F ++ List.replicate (o.length - F.length) 0).toArray hH' (by simp; omega) i (by simp; omega)
  rw [Nat.zero_add] at this
  rw [this]
  rw [List.getElem?_eq_some_iff] at hi
  obtain ⟨h1, h2⟩ := hi
  simp [List.getElem?_append_left, h1, h2]
end Go.Proofs.Ytbnchmhhhildnaa
