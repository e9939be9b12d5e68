/- The contract of Order. -/
import Derived.Test.YtjaaljcdaamcjaaGreatYm
import Derived.OwnWalkIn
namespace Go.Proofs.YtjaaljcdaamcjaaGreat.Rd
open Go.RowKit Go.Shelf
set_option linter.unusedVariables false
attribute [local go_sem] Oper.semAt_some

theorem below_grown {A B : World} (h : A.grownBy B none) : Below A.heap.size A B := ⟨h.os, h.tape, h.output, h.size, fun k hk => h.block k hk (by simp)⟩
theorem order_nil (w : World) : Calls Tryz.prog 97 #[.pointer none] w fun e w' => e = .returned (.slice none 0 0) ∧ w = w' := by
  go_enter Tryz.func97, Tryz.ntmps97
  go_wp2
  go_ret
  exact ⟨rfl, rfl⟩

def encI (l : List Nat) : List Value := l.map fun (x : Nat) => Value.int .i64 (x : Int)
/-- What holds at the head of a round of Order's loop. -/
def OrI (s b L : Nat) (w0 : World) (pre : List Nat) (W : World) : Prop :=
  (∃ cur : Array Value, RowAt W s 3 cur ∧ cur.size = L ∧ cur.toList.take pre.length = encI pre) ∧ pre.length ≤ L ∧ RowAt W b 42 #[.slice (some ⟨s, 0, none⟩) pre.length L] ∧ Below s w0 W
theorem OrI.own {s b L : Nat} {w0 : World} {pre : List Nat} {N : Nat} (hs : s ≤ N) {X Y : World} {row : Option Nat} (h : OrI s b L w0 pre X) (hg : X.grownBy Y row) (hr : ∀ r, row = some r → N ≤ r ∧ ∃ o : Obj, X.heap[r]? = some o ∧ o.isCells = false) : OrI s b L w0 pre Y := by
  obtain ⟨⟨cur, h1, h2, h3⟩, h4, h5, h6⟩ := h
  exact ⟨⟨cur, h1.nc hg hr, h2, h3⟩, h4, h5.nc hg hr, h6.grown hg (by have := h1.lt; omega) (fun k e => Nat.le_trans hs (hr k e).1)⟩
theorem OrI.owns {s b L : Nat} {w0 W : World} {pre : List Nat} (h : OrI s b L w0 pre W) (hL : L ≤ maxLen) : W.ownsRow s 3 1 (.slice (some ⟨s, 0, none⟩) pre.length L) pre.length (encI pre) := by
  obtain ⟨⟨cur, h1, h2, h3⟩, h4, h5, h6⟩ := h
  exact ⟨by simp [encI], .inr ⟨s, L, cur, rfl, Nat.le_refl _, h1, h4, hL, by omega, by rw [Nat.mul_one]; exact h3⟩⟩
theorem order_len {q : QS} {ls : Nat → List Nat} (h : QInv q ls) : (order ls).length ≤ 65536 := by have := h.small; rw [h.count] at this; exact this

theorem Try.info_int : (Tryz.prog.info? 3).map (fun i => (i.zero, i.size, i.bytes)) = some (some (.int .i64 0), 1, 8) := by kernel_rfl

set_option maxRecDepth 100000 in
set_option maxHeartbeats 4000000 in
theorem order_in (B : Nat) (q : QS) (ls : Nat → List Nat) (hi : QInv q ls) (w : World) (hq : QAt w B q) : Calls Tryz.prog 97 #[.pointer (some ⟨B, 0, none⟩)] w fun e w' =>
    e = .returned (.slice (some ⟨w.heap.size, 0, none⟩) (order ls).length (order ls).length) ∧ w'.ownsRow w.heap.size 3 1 (.slice (some ⟨w.heap.size, 0, none⟩) (order ls).length (order ls).length) (order ls).length (encI (order ls)) ∧ w.grownBy w' none := by
  have HI := Lib.hid hi
  have HQ := Lib.hid hq
  have HL := Lib.hid (order_len hi)
  have c1 : w.cell? ⟨B, 1284, none⟩ = some (.int .i64 ((order ls).length : Nat)) := by rw [hq.count, hi.count]
  obtain ⟨i0, hi0, hz0, hz1, hz2⟩ := info_parts Try.info_int
  clear hi hq
  generalize hLL : (order ls).length = L at c1 HL ⊢
  refine (callsIn_wide (n := 8)).1 ?_
  refine callsIn_of_wp_marks Tryz.func97 rfl trivial ?_ rfl
  simp only [Tryz.ntmps97, List.size_toArray, List.length_cons, List.length_nil, Nat.reduceAdd, Nat.reduceSub, Array.replicate_succ, Array.replicate_zero, List.push_toArray, List.append_toArray, List.nil_append, List.cons_append]
  have HLL := Lib.hid hLL
  clear hLL
  gi_wp2_with (first
    | (gi_at_make; refine wpListIn_make_own _ rfl (.const (.int .i64 0)) (.tmp 10) 42 rfl w.heap.size 3 i0 (.int .i64 0) 1 Tryz.underlying42 hi0 hz0 hz1 .i64 .i64 (L : Int) L rfl rfl rfl (by rw [hz2]; have := HL.out; omega) (by have := HL.out; unfold maxLen; omega) (Nat.le_refl _) ?_; intro w1 o1 g1)
    | (refine ⟨trivial, ?_⟩; gi_at_call 133; refine (callsIn_wide.2 (inorder_any B _)).mono ?_; rintro e w' ⟨rfl, rfl⟩))
  have HO1 : Hid (∃ cur : Array Value, RowAt w1 w.heap.size 3 cur ∧ cur.size = L) := by
    rcases o1.2 with h | ⟨g, cap, cur, h1, _, h3, _, _, h6, _⟩
    · cases h.1
    · injection h1 with h1 _ h1'
      injection h1 with h1
      injection h1 with h1
      subst h1' h1
      exact ⟨cur, h3, by omega⟩
  have HG1 := Lib.hid g1
  have HSB : Hid (w.heap.size < w1.heap.size) := by obtain ⟨cur, h, _⟩ := HO1.out; exact h.lt
  have HBL := Lib.hid HQ.out.lt
  have HN0 := Lib.hid ((RowAt.new w1 42 #[.slice (some ⟨w.heap.size, 0, none⟩) 0 L]).kept (grown_alloc _ (.cells #[.pointer (some ⟨B, 0, none⟩)] 84) none) (by simp))
  have HN1 := Lib.hid (RowAt.new (w1.alloc (.cells #[.slice (some ⟨w.heap.size, 0, none⟩) 0 L] 42)) 84 #[.pointer (some ⟨B, 0, none⟩)])
  have HS5 : Hid (((w1.alloc (.cells #[.slice (some ⟨w.heap.size, 0, none⟩) 0 L] 42)).alloc (.cells #[.pointer (some ⟨B, 0, none⟩)] 84)).heap.size = w1.heap.size + 2) := by show _ = _; simp
  have HG5 : Hid (w1.grownBy ((w1.alloc (.cells #[.slice (some ⟨w.heap.size, 0, none⟩) 0 L] 42)).alloc (.cells #[.pointer (some ⟨B, 0, none⟩)] 84)) none) := grown_trans (grown_alloc _ _ _) (grown_alloc _ _ _)
  simp only [World.size_alloc] at HN1
  clear o1 g1 c1
  generalize World.alloc (World.alloc w1 _) _ = W5 at HN0 HN1 HS5 HG5 ⊢
  have HO : Hid (OrI w.heap.size w1.heap.size L w [] W5) := by
    obtain ⟨cur, h1, h2⟩ := HO1.out
    exact ⟨⟨cur, h1.kept HG5.out (by simp), h2, rfl⟩, Nat.zero_le _, HN0.out, below_grown (grown_trans HG1.out HG5.out)⟩
  have HQ5 := Lib.hid (QAt.kept HQ.out (grown_trans HG1.out HG5.out) (by simp))
  generalize w1.heap.size = b at HSB HN0 HN1 HS5 HO ⊢
  refine wpIn_rangeWord rfl (by omega) (gf := 162) (lb := #[.pointer (some ⟨b + 1, 0, none⟩)]) rfl trivial (enters_of Tryz.func162 (by kernel_rfl) rfl)
    (inorder1_word 7 (by omega) B (b + 1) q ls HI.out W5 HN1.out HQ5.out) KpO.t ?kb (fun _ => rfl)
    (fun pre W => OrI w.heap.size b L w pre W) (fun _ _ _ => False)
    (fun s W W' row h hg hr => h.own (by have := HSB.out; have := HS5.out; omega) hg hr) (fun cc s W W' row h hg hr => h.elim) HO.out
    (fun x => { tmps := #[.pointer (some ⟨B, 0, none⟩), undef, .slice none 0 0, .pointer (some ⟨b, 0, none⟩), .int .i64 (x : Int), .pointer (some ⟨B, 0, none⟩), .bool false, .pointer (some ⟨B, 0, none⟩), .pointer (some ⟨B, 0, none⟩), .pointer (some ⟨B, 1284, none⟩), .int .i64 L, .slice (some ⟨w.heap.size, 0, none⟩) 0 L, .pointer (some ⟨B, 0, none⟩), .func (.func 162) #[] #[.pointer (some ⟨b + 1, 0, none⟩)], .int .i64 (x : Int), undef, undef, undef, undef, undef], defers := [] }) ?assign ?body ?done ?stop
  case kb =>
    intro W o o' ho hc
    refine ⟨(grownBy_putObj' W _ o').size, fun k o2 hk h2 => (World.putObj_heap_other (by have := HBL.out; have := HSB.out; have := HS5.out; omega)).trans h2⟩
  case assign =>
    intro l2 x W K hK
    gi_wp2
    exact hK
  case body =>
    rintro l2 pre x W hO hp
    have HO5 := Lib.hid hO
    have HLP : Hid (pre.length + 1 ≤ L) := by
      have := hp.length_le
      rw [HLL.out, List.length_append] at this
      exact this
    have how := hO.owns (show L ≤ maxLen from by have := HL.out; unfold maxLen; omega)
    have c1 : W.cell? ⟨b, 0, none⟩ = some (.slice (some ⟨w.heap.size, 0, none⟩) pre.length L) := hO.2.2.1.cell 0
    have f1 : W.frozen? ⟨b, 0, none⟩ = false := hO.2.2.1.frozen 0
    have HOW := Lib.hid how
    clear hO hp how
    gi_wp2_with (first
      | (gi_at_builtin; refine wpListIn_append_fits _ rfl (.tmp 15) (.tmp 17) 42 rfl w.heap.size 3 i0 1 Tryz.underlying42 hi0 hz1 w.heap.size pre.length L (encI pre) rfl (HOW.out.alloc _) ⟨W.heap.size, 0, none⟩ 1 1 [.int .i64 (x : Int)] rfl rfl ?c1 (by intro u hu; simp at hu; subst hu; rfl) HLP.out ?_)
      | (fail))
    case c1 =>
      intro j u hj
      match j, hj with
      | 0, hj => simp at hj; subst hj; simp [Addr.add]
    intro w2 o2 g2
    have HO2 : Hid (∃ cur : Array Value, RowAt w2 w.heap.size 3 cur ∧ cur.size = L ∧ cur.toList.take (pre.length + 1) = encI (pre ++ [x])) := by
      rcases o2.2 with h | ⟨g, cap, cur, h1, _, h3, _, _, h6, h7⟩
      · cases h.1
      · injection h1 with h1 _ h1'
        injection h1 with h1
        injection h1 with h1
        subst h1' h1
        exact ⟨cur, h3, by omega, by rw [Nat.mul_one] at h7; rw [h7]; simp [encI]⟩
    have HG2 := Lib.hid (grown_trans (grown_alloc W (.cells #[.int .i64 (x : Int)] 3) (some w.heap.size)) g2)
    have HR2 := Lib.hid (HO5.out.2.2.1.kept HG2.out (by have := HSB.out; simp; omega))
    have c2 : w2.cell? ⟨b, 0, none⟩ = some (.slice (some ⟨w.heap.size, 0, none⟩) pre.length L) := HR2.out.cell 0
    have f2 : w2.frozen? ⟨b, 0, none⟩ = false := HR2.out.frozen 0
    clear o2 g2 c1 f1
    gi_wp2
    have hsb := HSB.out
    have hs5 := HS5.out
    have hbl := HBL.out
    have keep : ∀ (k : Nat) (o : Obj), k ≠ w.heap.size → k ≠ b → W.heap[k]? = some o → (w2.setCell ⟨b, 0, none⟩ (.slice (some ⟨w.heap.size, 0, none⟩) (pre.length + 1) L)).heap[k]? = some o := fun k o h1 h2 h => by
      rw [heap_setCell_other _ _ _ _ h2]
      exact (HG2.out.block k (Array.getElem?_eq_some_iff.1 h).1 (by simpa using h1)).trans h
    have size : W.heap.size ≤ (w2.setCell ⟨b, 0, none⟩ (.slice (some ⟨w.heap.size, 0, none⟩) (pre.length + 1) L)).heap.size := Nat.le_trans HG2.out.size (grown_set _ b 0 _).size
    refine ⟨⟨size, fun k o hk h2 _ => keep k o (by omega) (by omega) h2⟩, ⟨size, fun k o hk h2 => keep k o (by omega) (by omega) h2⟩, ?_, by rw [List.length_append]; exact HLP.out, ?_, ?_⟩
    · obtain ⟨cur, h1, h2, h3⟩ := HO2.out
      exact ⟨cur, h1.other (by omega) 0 _, h2, by rw [List.length_append]; exact h3⟩
    · rw [List.length_append]; exact HR2.out.set 0 _
    · have hlt := HO5.out.2.2.1.lt
      have h6 := HO5.out.2.2.2
      have hz := HG2.out.size
      exact (h6.grown HG2.out (by omega) (fun k e => by cases e; exact Nat.le_refl _)).grown (grown_set _ b 0 _) (by omega) (fun k e => by cases e; omega)
  case done =>
    rintro D xs W hD rfl hR hm
    have HR5 := Lib.hid hR
    have HM := Lib.hid hm
    have HD : Hid (w.heap.size ≤ D) := by show _ ≤ _; have := HSB.out; have := HS5.out; omega
    have c1 : W.cell? ⟨b, 0, none⟩ = some (.slice (some ⟨w.heap.size, 0, none⟩) L L) := by have := hR.2.2.1.cell 0; rw [HLL.out] at this; exact this
    clear hR hm hD
    gi_wp2
    refine leaves_marks (N := w.heap.size) (OrI w.heap.size b L w (order ls)) (fun X E hk hE ho => hk.own (Nat.le_refl _) (grownBy_putObj' X E _) (fun r e => by cases e; exact ⟨hE, _, ho, rfl⟩)) (fun X hk => ⟨_, results_tmp rfl _ _ _, rfl, ?_, grown_below hk.2.2.2⟩) [D] _ (by simp) ?_ ?_ HR5.out
    · intro x hx
      rw [List.mem_singleton.1 hx]; exact HD.out
    · intro x hx
      rw [List.mem_singleton.1 hx]; exact HM.out
    · have := hk.owns (show L ≤ maxLen from by have := HL.out; unfold maxLen; omega)
      rw [HLL.out] at this
      exact this
  case stop =>
    rintro D cc pre W hD hp h hm
    exact h.elim
end Go.Proofs.YtjaaljcdaamcjaaGreat.Rd
