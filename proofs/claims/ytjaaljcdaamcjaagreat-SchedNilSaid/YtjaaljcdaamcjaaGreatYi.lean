/- The contracts of package ready's calls that change a queue or ask it, but for those that walk through it. -/
import Derived.Test.YtjaaljcdaamcjaaGreatYh
namespace Go.Proofs.YtjaaljcdaamcjaaGreat.Rd
open Go.RowKit
set_option linter.unusedVariables false

/-- The threads of the priorities below n, greatest priority first. -/
def orderN : Nat → (Nat → List Nat) → List Nat
  | 0, _ => []
  | n + 1, ls => ls n ++ orderN n ls
def order (ls : Nat → List Nat) : List Nat := orderN 256 ls
theorem orderN_congr {ls ms : Nat → List Nat} : ∀ n, (∀ p, p < n → ls p = ms p) → orderN n ls = orderN n ms
  | 0, _ => rfl
  | n + 1, h => by rw [orderN, orderN, h n (by omega), orderN_congr n fun p hp => h p (by omega)]
theorem orderN_len {ls ms : Nat → List Nat} {p k : Nat} (hp : (ms p).length = (ls p).length + k) (ho : ∀ i, i ≠ p → (ms i).length = (ls i).length) : ∀ n, (orderN n ms).length = (orderN n ls).length + if p < n then k else 0
  | 0 => by simp [orderN]
  | n + 1 => by
    rw [orderN, orderN, List.length_append, List.length_append, orderN_len hp ho n]
    by_cases e : n = p
    · subst e; rw [hp, if_neg (by omega), if_pos (by omega)]; omega
    · rw [ho n e]
      by_cases h : p < n
      · rw [if_pos h, if_pos (by omega)]; omega
      · rw [if_neg h, if_neg (by omega)]; omega
theorem nodup_len : ∀ (n : Nat) (l : List Nat), l.Nodup → (∀ x ∈ l, x < n) → l.length ≤ n
  | 0, l, _, h => by
    cases l with
    | nil => simp
    | cons a l => exact absurd (h a (by simp)) (by omega)
  | n + 1, l, hn, h => by
    have h1 := nodup_len n (l.erase n) (hn.erase n) fun x hx => by
      have h2 := h x (List.mem_of_mem_erase hx)
      have h3 : x ≠ n := fun e => by rw [e, hn.mem_erase_iff] at hx; exact hx.1 rfl
      omega
    have h2 : l.length ≤ (l.erase n).length + 1 := by rw [List.length_erase]; split <;> omega
    omega
theorem order_mem {ls : Nat → List Nat} {t : Nat} : ∀ n, t ∈ orderN n ls ↔ ∃ p, p < n ∧ t ∈ ls p
  | 0 => by simp [orderN]
  | n + 1 => by
    rw [orderN, List.mem_append, order_mem n]
    constructor
    · rintro (h | ⟨p, hp, h⟩)
      · exact ⟨n, by omega, h⟩
      · exact ⟨p, by omega, h⟩
    · rintro ⟨p, hp, h⟩
      by_cases e : p = n
      · subst e; exact .inl h
      · exact .inr ⟨p, by omega, h⟩

structure QInv (q : QS) (ls : Nat → List Nat) : Prop where
  r : RInv q ls
  mask0 : ∀ t, t < 256 → (q.mask t ≠ 0 ↔ ∃ p, t ∈ ls p)
  maskl : ∀ t, q.mask t < 256
  count : q.count = (order ls).length
/-- Block B holds a queue with these lists and masks. -/
def QP (B : Nat) (ls : Nat → List Nat) (mk : Nat → Nat) (W : World) : Prop := ∃ q, QAt W B q ∧ QInv q ls ∧ q.mask = mk
theorem QP.kept {B : Nat} {ls : Nat → List Nat} {mk : Nat → Nat} {W W' : World} {row : Option Nat} (h : QP B ls mk W) (hg : W.grownBy W' row) (hne : some B ≠ row) : QP B ls mk W' := by
  obtain ⟨q, h1, h2, h3⟩ := h
  exact ⟨q, h1.kept hg hne, h2, h3⟩
theorem QP.lt {B : Nat} {ls : Nat → List Nat} {mk : Nat → Nat} {W : World} (h : QP B ls mk W) : B < W.heap.size := by obtain ⟨q, h1, _⟩ := h; exact h1.lt
theorem QP.no {B : Nat} {ls : Nat → List Nat} {mk : Nat → Nat} {W : World} (h : QP B ls mk W) {t : Nat} (ht : t < 256) (hm : mk t = 0) : ∀ i, t ∉ ls i := by
  obtain ⟨q, _, h2, rfl⟩ := h
  exact fun i hi => (h2.mask0 t ht).2 ⟨i, hi⟩ hm
theorem QP.yes {B : Nat} {ls : Nat → List Nat} {mk : Nat → Nat} {W : World} (h : QP B ls mk W) {t : Nat} (ht : t < 256) (hm : mk t ≠ 0) : ∃ p, p < 256 ∧ t ∈ ls p := by
  obtain ⟨q, _, h2, rfl⟩ := h
  obtain ⟨p, hp⟩ := (h2.mask0 t ht).1 hm
  exact ⟨p, (h2.r.mem p t hp).2.1, hp⟩
/-- A call that answers v and leaves these lists and masks. -/
def QPE (v : Value) (B : Nat) (ls : Nat → List Nat) (mk : Nat → Nat) (W : World) (e : Ending) (w' : World) : Prop := e = .returned v ∧ W.grownBy w' (some B) ∧ QP B ls mk w'

/-! Add -/
theorem add_nil (t p m : Int) (front : Bool) (w : World) : Calls Tryz.prog 119 #[.pointer none, .int .i64 t, .int .i64 p, .int .i64 m, .bool front] w fun e w' => e = .returned (.int .i64 35) ∧ w = w' := by
  go_enter Tryz.func119, Tryz.ntmps119
  go_wp2
  go_ret
  exact ⟨rfl, rfl⟩
theorem add_bad {W : World} {B : Nat} (t p m : Int) (front : Bool) (hb : ¬ (isThr t = true ∧ isThr p = true ∧ isMsk m = true)) :
    Calls Tryz.prog 119 #[.pointer (some ⟨B, 0, none⟩), .int .i64 t, .int .i64 p, .int .i64 m, .bool front] W fun e w' => e = .returned (.int .i64 34) ∧ W = w' := by
  have h3 : isThr t = false ∨ (isThr t = true ∧ isThr p = false) ∨ (isThr t = true ∧ isThr p = true ∧ isMsk m = false) := by
    cases h1 : isThr t
    · exact .inl rfl
    · cases h2 : isThr p
      · exact .inr (.inl ⟨rfl, rfl⟩)
      · cases h4 : isMsk m
        · exact .inr (.inr ⟨rfl, rfl, rfl⟩)
        · exact absurd ⟨h1, h2, h4⟩ hb
  clear hb
  rcases h3 with h | ⟨h, h'⟩ | ⟨h, h', h''⟩
  · have HT := Lib.hid h
    clear h
    go_enter Tryz.func119, Tryz.ntmps119
    go_wp2_with (go_at_call 156; refine (isthread_any _ _).mono ?_; rw [HT.out]; rintro e w' ⟨rfl, rfl⟩)
    go_ret
    exact ⟨rfl, rfl⟩
  · have HT := Lib.hid h
    have HP := Lib.hid h'
    clear h h'
    go_enter Tryz.func119, Tryz.ntmps119
    go_wp2_with (first
      | (go_at_call 156; refine (isthread_any _ _).mono ?_; rw [HT.out]; rintro e w' ⟨rfl, rfl⟩)
      | (go_at_call 157; refine (ispriority_any _ _).mono ?_; rw [HP.out]; rintro e w' ⟨rfl, rfl⟩))
    go_ret
    exact ⟨rfl, rfl⟩
  · have HT := Lib.hid h
    have HP := Lib.hid h'
    have HM := Lib.hid h''
    clear h h' h''
    go_enter Tryz.func119, Tryz.ntmps119
    go_wp2_with (first
      | (go_at_call 156; refine (isthread_any _ _).mono ?_; rw [HT.out]; rintro e w' ⟨rfl, rfl⟩)
      | (go_at_call 157; refine (ispriority_any _ _).mono ?_; rw [HP.out]; rintro e w' ⟨rfl, rfl⟩)
      | (go_at_call 158; refine (ismask_any _ _).mono ?_; rw [HM.out]; rintro e w' ⟨rfl, rfl⟩))
    go_ret
    exact ⟨rfl, rfl⟩
theorem add_exist {W : World} {B : Nat} {ls : Nat → List Nat} {mk : Nat → Nat} (h : QP B ls mk W) (t p m : Nat) (front : Bool) (ht : t < 256) (hp : p < 256) (hm0 : 0 < m) (hm : m < 256) (hx : mk t ≠ 0) :
    Calls Tryz.prog 119 #[.pointer (some ⟨B, 0, none⟩), .int .i64 t, .int .i64 p, .int .i64 m, .bool front] W fun e w' => e = .returned (.int .i64 10) ∧ W = w' := by
  obtain ⟨q, h1, h2, rfl⟩ := h
  have HT : Hid (isThr t = true) := (isThr_iff _).2 (by omega)
  have HP : Hid (isThr p = true) := (isThr_iff _).2 (by omega)
  have HM : Hid (isMsk m = true) := (isMsk_iff _).2 (by omega)
  have HH : Hid (holdsB q t = true) := (holdsB_iff q t).2 hx
  have HQ := Lib.hid h1
  clear h1 h2 hx
  go_enter Tryz.func119, Tryz.ntmps119
  go_wp2_with (first
    | (go_at_call 156; refine (isthread_any _ _).mono ?_; rw [HT.out]; rintro e w' ⟨rfl, rfl⟩)
    | (go_at_call 157; refine (ispriority_any _ _).mono ?_; rw [HP.out]; rintro e w' ⟨rfl, rfl⟩)
    | (go_at_call 158; refine (ismask_any _ _).mono ?_; rw [HM.out]; rintro e w' ⟨rfl, rfl⟩)
    | (go_at_call 159; refine (holds_any HQ.out t ht).mono ?_; rw [HH.out]; rintro e w' ⟨rfl, rfl⟩))
  go_ret
  exact ⟨rfl, rfl⟩
theorem QInv.add {q q' : QS} {ls : Nat → List Nat} {t p m : Nat} {front : Bool} (h : QInv q ls) (ht : t < 256) (hp : p < 256) (hm0 : 0 < m) (hm : m < 256) (hn : ∀ i, t ∉ ls i) (hr : RInv q' (ins ls t p front)) (hk : q'.mask = upd q.mask t m) (hc : q'.count = q.count + 1) : QInv q' (ins ls t p front) := by
  refine ⟨hr, fun x hx => ?_, fun x => ?_, ?_⟩
  · rw [hk]
    by_cases e : x = t
    · subst e
      rw [upd_same]
      refine ⟨fun _ => ⟨p, ?_⟩, fun _ => by omega⟩
      rw [ins_same]; cases front <;> simp
    · rw [upd_other e, h.mask0 x hx]
      constructor
      · rintro ⟨i, hi⟩
        refine ⟨i, ?_⟩
        by_cases ei : i = p
        · subst ei; rw [ins_same]; cases front <;> simp [hi]
        · rw [ins_other ei]; exact hi
      · rintro ⟨i, hi⟩
        refine ⟨i, ?_⟩
        by_cases ei : i = p
        · subst ei; rw [ins_same] at hi; cases front <;> simp [e] at hi <;> exact hi
        · rw [ins_other ei] at hi; exact hi
  · rw [hk]
    by_cases e : x = t
    · subst e; rw [upd_same]; exact hm
    · rw [upd_other e]; exact h.maskl x
  · rw [hc, h.count, order, order, orderN_len (ls := ls) (ms := ins ls t p front) (p := p) (k := 1) (by rw [ins_same]; cases front <;> simp) (fun i e => by rw [ins_other e]) 256, if_pos hp]
set_option maxHeartbeats 1000000 in
theorem add_ok {W : World} {B : Nat} {ls : Nat → List Nat} {mk : Nat → Nat} (h : QP B ls mk W) (t p m : Nat) (front : Bool) (ht : t < 256) (hp : p < 256) (hm0 : 0 < m) (hm : m < 256) (hx : mk t = 0) :
    Calls Tryz.prog 119 #[.pointer (some ⟨B, 0, none⟩), .int .i64 t, .int .i64 p, .int .i64 m, .bool front] W (QPE (.int .i64 0) B (ins ls t p front) (upd mk t m) W) := by
  have hno := h.no ht hx
  obtain ⟨q, h1, h2, rfl⟩ := h
  have HT : Hid (isThr t = true) := (isThr_iff _).2 (by omega)
  have HP : Hid (isThr p = true) := (isThr_iff _).2 (by omega)
  have HM : Hid (isMsk m = true) := (isMsk_iff _).2 (by omega)
  have HH : Hid (holdsB q t = false) := by show _ = _; simp [holdsB, hx]
  have HQ := Lib.hid h1
  have HI := Lib.hid h2
  have HN := Lib.hid hno
  have t0 : (0 : Int) ≤ t := by omega
  have t1 : (t : Int) < 256 := by omega
  have c1 := h1.mask t ht
  have f1 := h1.frozen (1028 + t)
  have hcl : q.count < 4294967296 := by
    have := h2.count
    have hl : (order ls).length ≤ 256 * 256 := by
      have : ∀ n, (orderN n ls).length ≤ n * 256 := by
        intro n
        induction n with
        | zero => simp [orderN]
        | succ n ih =>
          have hle : (ls n).length ≤ 256 := nodup_len 256 _ (h2.r.nodup n) fun x hx => (h2.r.mem n x hx).1
          rw [orderN, List.length_append]; omega
      exact this 256
    omega
  clear h1 h2 hno hx
  go_enter Tryz.func119, Tryz.ntmps119
  go_upto_region 8 with (first
    | (go_at_call 156; refine (isthread_any _ _).mono ?_; rw [HT.out]; rintro e w' ⟨rfl, rfl⟩)
    | (go_at_call 157; refine (ispriority_any _ _).mono ?_; rw [HP.out]; rintro e w' ⟨rfl, rfl⟩)
    | (go_at_call 158; refine (ismask_any _ _).mono ?_; rw [HM.out]; rintro e w' ⟨rfl, rfl⟩)
    | (go_at_call 159; refine (holds_any HQ.out t ht).mono ?_; rw [HH.out]; rintro e w' ⟨rfl, rfl⟩))
  have H1 := Lib.hid (HQ.out.setMask t m ht)
  have G1 := Lib.hid (grown_set W B (1028 + t) (.int .i64 m))
  clear c1 f1
  generalize World.setCell W _ _ = w1 at H1 G1 ⊢
  have c1 := H1.out.count
  have f1 := H1.out.frozen 1284
  go_upto_region 9 with (fail)
  have H2 : Hid (QAt (w1.setCell ⟨B, 1284, none⟩ (.int .i64 ((q.count : Int) + 1))) B { q with mask := upd q.mask t m, count := q.count + 1 }) := H1.out.setCount (q.count + 1)
  have G2 := Lib.hid (grown_trans G1.out (grown_set w1 B 1284 (.int .i64 ((q.count : Int) + 1))))
  clear c1 f1
  generalize World.setCell w1 _ _ = w2 at H2 G2 ⊢
  have HR : Hid (RInv { q with mask := upd q.mask t m, count := q.count + 1 } ls) := ⟨HI.out.r.nodup, HI.out.r.mem, HI.out.r.bit, HI.out.r.flt, HI.out.r.head, HI.out.r.ring⟩
  go_wp2_with (go_at_call 160; refine (put_any H2.out HR.out t p ht hp HN.out front).mono ?_; rintro e w3 ⟨⟨v, rfl⟩, g3, q', h3, r3, m3, k3⟩)
  go_ret
  exact ⟨rfl, grown_trans G2.out g3, q', h3, HI.out.add ht hp hm0 hm HN.out r3 m3 k3, m3⟩
end Go.Proofs.YtjaaljcdaamcjaaGreat.Rd
