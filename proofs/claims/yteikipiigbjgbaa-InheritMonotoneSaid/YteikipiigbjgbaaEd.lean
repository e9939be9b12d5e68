/- symMerge of three or more: the search, the rotation, both halves. -/
import Derived.Test.YteikipiigbjgbaaEc
import Derived.Deep.CutRange
namespace Go.Proofs.Yteikipiigbjgbaa
open Go.RowKit
set_option linter.unusedVariables false

set_option maxRecDepth 100000 in
set_option maxHeartbeats 8000000 in
theorem symmerge_gen {N : Nat} (hok : SymOk N) {W : World} {b x n : Nat} {xs : List Nat} {C : Nat → Nat → Int} (hS : Srt W b xs) (hx : ∀ v ∈ xs, v < n) (hc : Cmpr W b x n C) (cap p m q : Nat) (h1 : p + 1 < m) (h2 : m + 1 < q) (h3 : q ≤ xs.length) (h4 : xs.length ≤ 65536) (h5 : q ≤ p + N + 1) :
    Calls Try.prog 71 #[.slice (some ⟨b, 0, none⟩) xs.length cap, .int .i64 (p : Int), .int .i64 (m : Int), .int .i64 (q : Int), cmpF x] W fun e w' => e = .returned (.tuple #[]) ∧ Srt w' b xs ∧ Fr (fun k => k = b) W w' := by
  have HS := Lib.hid hS
  have HX := Lib.hid hx
  have HC := Lib.hid hc
  have p0 : (0 : Int) ≤ p := by omega
  have m0 : (0 : Int) ≤ m := by omega
  have q0 : (0 : Int) ≤ q := by omega
  have l1 : (p : Int) + 1 < m := by omega
  have l2 : (m : Int) + 1 < q := by omega
  have l3 : (q : Int) ≤ xs.length := by omega
  have l4 : (xs.length : Int) ≤ 65536 := by omega
  have one : ((m : Int) - p == 1) = false := by simp; omega
  have one2 : ((q : Int) - m == 1) = false := by simp; omega
  obtain ⟨d, hd⟩ : ∃ d : Nat, ((p : Int) + q) / 2 = d := ⟨(p + q) / 2, by omega⟩
  have HD : Hid (2 * d ≤ p + q ∧ p + q ≤ 2 * d + 1) := ⟨by omega, by omega⟩
  obtain ⟨g, hg⟩ : ∃ g : Nat, (d : Int) + m - 1 = g := ⟨d + m - 1, by omega⟩
  have HG : Hid (g + 1 = d + m) := by show _ = _; omega
  have g0 : (0 : Int) ≤ g := by omega
  have d0 : (0 : Int) ≤ d := by omega
  have d1 : (d : Int) ≤ q := by omega
  have HSY : Hid (∀ (w : World) (u v y : Nat), Srt w b xs → Fr (fun k => k = b) W w → u < v → v < y → y ≤ xs.length → y ≤ u + N → Calls Try.prog 71 #[.slice (some ⟨b, 0, none⟩) xs.length cap, .int .i64 (u : Int), .int .i64 (v : Int), .int .i64 (y : Int), cmpF x] w fun e w' => e = .returned (.tuple #[]) ∧ Srt w' b xs ∧ Fr (fun k => k = b) w w') :=
    fun w u v y a1 a2 a3 a4 a5 a6 => hok w b x n xs C cap u v y a1 hx (hc.fr a2) a3 a4 a5 h4 a6
  have HRT : Hid (∀ (w : World) (u v y : Nat), Srt w b xs → u < v → v < y → y ≤ xs.length → Calls Try.prog 72 #[.slice (some ⟨b, 0, none⟩) xs.length cap, .int .i64 (u : Int), .int .i64 (v : Int), .int .i64 (y : Int), cmpF x] w fun e w' => e = .returned (.tuple #[]) ∧ Srt w' b xs ∧ Fr (fun k => k = b) w w') :=
    fun w u v y a1 a3 a4 a5 => rotate_any a1 cap u v y a3 a4 a5 h4
  have HN : Hid (p + 1 < m ∧ m + 1 < q ∧ q ≤ xs.length ∧ q ≤ p + N + 1) := ⟨h1, h2, h3, h5⟩
  clear hS hx hc h1 h2 h3 h4 h5
  unfold cmpF at HSY HRT ⊢
  go_enter Try.func71, Try.ntmps71
  by_cases hmd : (d : Int) < m
  · go_wp2
    go_loopw [20, 21] (fun vi vj wr => ∃ s r : Nat, vi = .int .i64 s ∧ vj = .int .i64 r ∧ (p : Int) ≤ s ∧ (d : Int) + m ≤ s + q ∧ (s : Int) ≤ r ∧ (r : Int) ≤ m ∧ (r : Int) ≤ d ∧ Hid (Srt wr b xs ∧ Fr (fun k => k = b) W wr)) (fun vi vj _ => (intOf vj).toNat - (intOf vi).toNat)
    case atStart => exact ⟨d + m - q, d, by first | rfl | (congr 1; have := HD.out; omega), rfl, by have := HD.out; omega, by have := HD.out; omega, by have := HD.out; omega, by have := HD.out; omega, by have := HD.out; omega, HS.out, Fr.refl _ _⟩
    case round =>
      clear hd hmd hg
      obtain ⟨s, r, rfl, rfl, s1, s2, sr, r1, r2, HI⟩ := hrel
      have s0 : (0 : Int) ≤ s := by omega
      have r0 : (0 : Int) ≤ r := by omega
      by_cases hlt : (s : Int) < r
      · obtain ⟨c, hh⟩ : ∃ c : Nat, ((s : Int) + r) / 2 = c := ⟨(s + r) / 2, by omega⟩
        have hi1 : s ≤ c := by omega
        have hj1 : c < r := by omega
        have h0 : (0 : Int) ≤ c := by omega
        have hl1 : (c : Int) < xs.length := by omega
        obtain ⟨u, hu⟩ : ∃ u : Nat, (g : Int) - c = u := ⟨g - c, by have := HG.out; omega⟩
        have u0 : (0 : Int) ≤ u := by omega
        have gl : (g : Int) ≤ 131072 := by have := HG.out; omega
        have ul1 : (u : Int) < xs.length := by have := HG.out; omega
        obtain ⟨A, hp, hr⟩ := HI.out.1
        have hsz := perm_size hp
        have hA : c < A.size := by omega
        have pA : u < A.size := by omega
        have c1 : wr.cell? ⟨b, c, none⟩ = some (.int .i64 ((A[c] : Nat) : Int)) := by rw [hr.cell]; simp [encA, hA]
        have c2 : wr.cell? ⟨b, u, none⟩ = some (.int .i64 ((A[u] : Nat) : Int)) := by rw [hr.cell]; simp [encA, pA]
        have HCC := Lib.hid (cmp_at HX.out HC.out hp HI.out.2 pA hA)
        generalize A[c] = y at c1 HCC
        generalize A[u] = z at c2 HCC
        have HMS1 : Hid ((intOf (Value.int IntKind.i64 (r : Int))).toNat - (intOf (Value.int IntKind.i64 ((c : Int) + 1))).toNat < (intOf (Value.int IntKind.i64 (r : Int))).toNat - (intOf (Value.int IntKind.i64 (s : Int))).toNat) := by
          show _ < _
          simp only [intOf]
          omega
        have HMS2 : Hid ((intOf (Value.int IntKind.i64 (c : Int))).toNat - (intOf (Value.int IntKind.i64 (s : Int))).toNat < (intOf (Value.int IntKind.i64 (r : Int))).toNat - (intOf (Value.int IntKind.i64 (s : Int))).toNat) := by
          show _ < _
          simp only [intOf]
          omega
        have HB : Hid (s ≤ c ∧ c < r) := ⟨hi1, hj1⟩
        clear hp hr hsz hA pA hi1 hj1
        cases hcy : decide (C z y < 0)
        · go_wp2
          go_quiet ((go_at_call 61; exact Calls.quiet_of (HCC.out _)))
          go_wp2
          go_roundw
          case rel => exact ⟨c + 1, r, by push_cast; rfl, rfl, by have := HB.out; push_cast; omega, by have := HB.out; push_cast; omega, by have := HB.out; push_cast; omega, r1, r2, Srt.drewN HI.out.1 _, HI.out.2.trans (Fr.drewN _ _ _)⟩
          case measure => exact HMS1.out
        · go_wp2
          go_quiet ((go_at_call 61; exact Calls.quiet_of (HCC.out _)))
          go_wp2
          go_roundw
          case rel => exact ⟨s, c, rfl, rfl, s1, s2, by have := HB.out; omega, by have := HB.out; omega, by have := HB.out; omega, Srt.drewN HI.out.1 _, HI.out.2.trans (Fr.drewN _ _ _)⟩
          case measure => exact HMS2.out
      · obtain ⟨e, he⟩ : ∃ e : Nat, (d : Int) + m - s = e := ⟨d + m - s, by omega⟩
        have e0 : (0 : Int) ≤ e := by omega
        have e1 : (e : Int) ≤ q := by omega
        have s3 : (s : Int) ≤ m := by omega
        have s4 : (s : Int) ≤ d := by omega
        have HSS := Lib.hid HI.out.1
        have HFF := Lib.hid HI.out.2
        have HR : Hid (∀ w, Srt w b xs → (s : Int) < m → (m : Int) < e → Calls Try.prog 72 #[.slice (some ⟨b, 0, none⟩) xs.length cap, .int .i64 (s : Int), .int .i64 (m : Int), .int .i64 (e : Int), .func (.func 61) #[] #[.pointer (some ⟨x, 0, none⟩)]] w fun e w' => e = .returned (.tuple #[]) ∧ Srt w' b xs ∧ Fr (fun k => k = b) w w') := fun w a1 a2 a3 => HRT.out w s m e a1 (by omega) (by omega) (by omega)
        have HL : Hid (∀ w, Srt w b xs → Fr (fun k => k = b) W w → (p : Int) < s → (s : Int) < d → Calls Try.prog 71 #[.slice (some ⟨b, 0, none⟩) xs.length cap, .int .i64 (p : Int), .int .i64 (s : Int), .int .i64 (d : Int), .func (.func 61) #[] #[.pointer (some ⟨x, 0, none⟩)]] w fun e w' => e = .returned (.tuple #[]) ∧ Srt w' b xs ∧ Fr (fun k => k = b) w w') := fun w a1 a2 a3 a4 => HSY.out w p s d a1 a2 (by omega) (by omega) (by omega) (by have := HD.out; have := HN.out; omega)
        have HU : Hid (∀ w, Srt w b xs → Fr (fun k => k = b) W w → (d : Int) < e → (e : Int) < q → Calls Try.prog 71 #[.slice (some ⟨b, 0, none⟩) xs.length cap, .int .i64 (d : Int), .int .i64 (e : Int), .int .i64 (q : Int), .func (.func 61) #[] #[.pointer (some ⟨x, 0, none⟩)]] w fun e w' => e = .returned (.tuple #[]) ∧ Srt w' b xs ∧ Fr (fun k => k = b) w w') := fun w a1 a2 a3 a4 => HSY.out w d e q a1 a2 (by omega) (by omega) (by omega) (by have := HD.out; have := HN.out; omega)
        clear HSY HRT HI HC HX r1 r2
        go_upto_region 39 with (fail)
        go_cut [185] from 178 to 185 (fun vb w7 => ∃ q7 : Bool, vb = Value.bool q7 ∧ (q7 = true → (s : Int) < m ∧ (m : Int) < e) ∧ Hid (Srt w7 b xs ∧ Fr (fun k => k = b) W w7))
        case first =>
          by_cases b1 : (s : Int) < m
          · by_cases b2 : (m : Int) < e
            · go_wp2
              go_meet
              exact ⟨_, rfl, fun _ => ⟨b1, b2⟩, HSS.out, HFF.out⟩
            · go_wp2
              go_meet
              exact ⟨false, rfl, (fun h => nomatch h), HSS.out, HFF.out⟩
          · have g1 : decide ((s : Int) < m) = false := decide_eq_false b1
            have g1n : decide (s < m) = false := decide_eq_false (by omega)
            clear b1
            go_wp2
            go_meet
            exact ⟨false, rfl, (fun h => nomatch h), HSS.out, HFF.out⟩
        case rest =>
          obtain ⟨q7, rfl, hq7, HH⟩ := hcut
          have HQ := Lib.hid hq7
          have HSS := Lib.hid HH.out.1
          have HFF := Lib.hid HH.out.2
          clear hq7 HH
          go_upto_if 185 with (fail)
          go_cut [] from 186 to 191 (fun w7 => Hid (Srt w7 b xs ∧ Fr (fun k => k = b) W w7))
          case first =>
            cases q7
            · go_wp2
              go_meet
              exact ⟨HSS.out, HFF.out⟩
            · obtain ⟨h1, h2⟩ := HQ.out rfl
              go_wp2_with (go_at_call 72; refine (HR.out _ HSS.out (by omega) (by omega)).mono ?_; rintro e2 w2 ⟨rfl, hs2, hf2⟩; have HS2 := Lib.hid hs2; have HF2 := Lib.hid (HFF.out.trans hf2); clear hs2 hf2)
              go_meet
              exact ⟨HS2.out, HF2.out⟩
          case rest =>
            have HSS := Lib.hid hcut.out.1
            have HFF := Lib.hid hcut.out.2
            clear hcut
            go_upto_region 41 with (fail)
            go_cut [199] from 192 to 199 (fun vb w7 => ∃ q7 : Bool, vb = Value.bool q7 ∧ (q7 = true → (p : Int) < s ∧ (s : Int) < d) ∧ Hid (Srt w7 b xs ∧ Fr (fun k => k = b) W w7))
            case first =>
              by_cases b1 : (p : Int) < s
              · by_cases b2 : (s : Int) < d
                · go_wp2
                  go_meet
                  exact ⟨_, rfl, fun _ => ⟨b1, b2⟩, HSS.out, HFF.out⟩
                · go_wp2
                  go_meet
                  exact ⟨false, rfl, (fun h => nomatch h), HSS.out, HFF.out⟩
              · have g1 : decide ((p : Int) < s) = false := decide_eq_false b1
                have g1n : decide (p < s) = false := decide_eq_false (by omega)
                clear b1
                go_wp2
                go_meet
                exact ⟨false, rfl, (fun h => nomatch h), HSS.out, HFF.out⟩
            case rest =>
              obtain ⟨q7, rfl, hq7, HH⟩ := hcut
              have HQ := Lib.hid hq7
              have HSS := Lib.hid HH.out.1
              have HFF := Lib.hid HH.out.2
              clear hq7 HH
              go_upto_if 199 with (fail)
              go_cut [] from 200 to 205 (fun w7 => Hid (Srt w7 b xs ∧ Fr (fun k => k = b) W w7))
              case first =>
                cases q7
                · go_wp2
                  go_meet
                  exact ⟨HSS.out, HFF.out⟩
                · obtain ⟨h1, h2⟩ := HQ.out rfl
                  go_wp2_with (go_at_call 71; refine (HL.out _ HSS.out HFF.out (by omega) (by omega)).mono ?_; rintro e2 w2 ⟨rfl, hs2, hf2⟩; have HS2 := Lib.hid hs2; have HF2 := Lib.hid (HFF.out.trans hf2); clear hs2 hf2)
                  go_meet
                  exact ⟨HS2.out, HF2.out⟩
              case rest =>
                have HSS := Lib.hid hcut.out.1
                have HFF := Lib.hid hcut.out.2
                clear hcut
                go_upto_region 43 with (fail)
                go_cut [213] from 206 to 213 (fun vb w7 => ∃ q7 : Bool, vb = Value.bool q7 ∧ (q7 = true → (d : Int) < e ∧ (e : Int) < q) ∧ Hid (Srt w7 b xs ∧ Fr (fun k => k = b) W w7))
                case first =>
                  by_cases b1 : (d : Int) < e
                  · by_cases b2 : (e : Int) < q
                    · go_wp2
                      go_meet
                      exact ⟨_, rfl, fun _ => ⟨b1, b2⟩, HSS.out, HFF.out⟩
                    · go_wp2
                      go_meet
                      exact ⟨false, rfl, (fun h => nomatch h), HSS.out, HFF.out⟩
                  · have g1 : decide ((d : Int) < e) = false := decide_eq_false b1
                    have g1n : decide (d < e) = false := decide_eq_false (by omega)
                    clear b1
                    go_wp2
                    go_meet
                    exact ⟨false, rfl, (fun h => nomatch h), HSS.out, HFF.out⟩
                case rest =>
                  obtain ⟨q7, rfl, hq7, HH⟩ := hcut
                  have HQ := Lib.hid hq7
                  have HSS := Lib.hid HH.out.1
                  have HFF := Lib.hid HH.out.2
                  clear hq7 HH
                  cases q7
                  · go_wp2
                    go_end0
                    exact ⟨rfl, HSS.out, HFF.out⟩
                  · obtain ⟨h1, h2⟩ := HQ.out rfl
                    go_wp2_with (go_at_call 71; refine (HU.out _ HSS.out HFF.out (by omega) (by omega)).mono ?_; rintro e2 w2 ⟨rfl, hs2, hf2⟩; have HS2 := Lib.hid hs2; have HF2 := Lib.hid (HFF.out.trans hf2); clear hs2 hf2)
                    go_end0
                    exact ⟨rfl, HS2.out, HF2.out⟩
  · go_wp2
    go_loopw [20, 21] (fun vi vj wr => ∃ s r : Nat, vi = .int .i64 s ∧ vj = .int .i64 r ∧ (p : Int) ≤ s ∧ (d : Int) + m ≤ s + q ∧ (s : Int) ≤ r ∧ (r : Int) ≤ m ∧ (r : Int) ≤ d ∧ Hid (Srt wr b xs ∧ Fr (fun k => k = b) W wr)) (fun vi vj _ => (intOf vj).toNat - (intOf vi).toNat)
    case atStart => exact ⟨p, m, by first | rfl | (congr 1; have := HD.out; omega), rfl, by have := HD.out; omega, by have := HD.out; omega, by have := HD.out; omega, by have := HD.out; omega, by have := HD.out; omega, HS.out, Fr.refl _ _⟩
    case round =>
      clear hd hmd hg
      obtain ⟨s, r, rfl, rfl, s1, s2, sr, r1, r2, HI⟩ := hrel
      have s0 : (0 : Int) ≤ s := by omega
      have r0 : (0 : Int) ≤ r := by omega
      by_cases hlt : (s : Int) < r
      · obtain ⟨c, hh⟩ : ∃ c : Nat, ((s : Int) + r) / 2 = c := ⟨(s + r) / 2, by omega⟩
        have hi1 : s ≤ c := by omega
        have hj1 : c < r := by omega
        have h0 : (0 : Int) ≤ c := by omega
        have hl1 : (c : Int) < xs.length := by omega
        obtain ⟨u, hu⟩ : ∃ u : Nat, (g : Int) - c = u := ⟨g - c, by have := HG.out; omega⟩
        have u0 : (0 : Int) ≤ u := by omega
        have gl : (g : Int) ≤ 131072 := by have := HG.out; omega
        have ul1 : (u : Int) < xs.length := by have := HG.out; omega
        obtain ⟨A, hp, hr⟩ := HI.out.1
        have hsz := perm_size hp
        have hA : c < A.size := by omega
        have pA : u < A.size := by omega
        have c1 : wr.cell? ⟨b, c, none⟩ = some (.int .i64 ((A[c] : Nat) : Int)) := by rw [hr.cell]; simp [encA, hA]
        have c2 : wr.cell? ⟨b, u, none⟩ = some (.int .i64 ((A[u] : Nat) : Int)) := by rw [hr.cell]; simp [encA, pA]
        have HCC := Lib.hid (cmp_at HX.out HC.out hp HI.out.2 pA hA)
        generalize A[c] = y at c1 HCC
        generalize A[u] = z at c2 HCC
        have HMS1 : Hid ((intOf (Value.int IntKind.i64 (r : Int))).toNat - (intOf (Value.int IntKind.i64 ((c : Int) + 1))).toNat < (intOf (Value.int IntKind.i64 (r : Int))).toNat - (intOf (Value.int IntKind.i64 (s : Int))).toNat) := by
          show _ < _
          simp only [intOf]
          omega
        have HMS2 : Hid ((intOf (Value.int IntKind.i64 (c : Int))).toNat - (intOf (Value.int IntKind.i64 (s : Int))).toNat < (intOf (Value.int IntKind.i64 (r : Int))).toNat - (intOf (Value.int IntKind.i64 (s : Int))).toNat) := by
          show _ < _
          simp only [intOf]
          omega
        have HB : Hid (s ≤ c ∧ c < r) := ⟨hi1, hj1⟩
        clear hp hr hsz hA pA hi1 hj1
        cases hcy : decide (C z y < 0)
        · go_wp2
          go_quiet ((go_at_call 61; exact Calls.quiet_of (HCC.out _)))
          go_wp2
          go_roundw
          case rel => exact ⟨c + 1, r, by push_cast; rfl, rfl, by have := HB.out; push_cast; omega, by have := HB.out; push_cast; omega, by have := HB.out; push_cast; omega, r1, r2, Srt.drewN HI.out.1 _, HI.out.2.trans (Fr.drewN _ _ _)⟩
          case measure => exact HMS1.out
        · go_wp2
          go_quiet ((go_at_call 61; exact Calls.quiet_of (HCC.out _)))
          go_wp2
          go_roundw
          case rel => exact ⟨s, c, rfl, rfl, s1, s2, by have := HB.out; omega, by have := HB.out; omega, by have := HB.out; omega, Srt.drewN HI.out.1 _, HI.out.2.trans (Fr.drewN _ _ _)⟩
          case measure => exact HMS2.out
      · obtain ⟨e, he⟩ : ∃ e : Nat, (d : Int) + m - s = e := ⟨d + m - s, by omega⟩
        have e0 : (0 : Int) ≤ e := by omega
        have e1 : (e : Int) ≤ q := by omega
        have s3 : (s : Int) ≤ m := by omega
        have s4 : (s : Int) ≤ d := by omega
        have HSS := Lib.hid HI.out.1
        have HFF := Lib.hid HI.out.2
        have HR : Hid (∀ w, Srt w b xs → (s : Int) < m → (m : Int) < e → Calls Try.prog 72 #[.slice (some ⟨b, 0, none⟩) xs.length cap, .int .i64 (s : Int), .int .i64 (m : Int), .int .i64 (e : Int), .func (.func 61) #[] #[.pointer (some ⟨x, 0, none⟩)]] w fun e w' => e = .returned (.tuple #[]) ∧ Srt w' b xs ∧ Fr (fun k => k = b) w w') := fun w a1 a2 a3 => HRT.out w s m e a1 (by omega) (by omega) (by omega)
        have HL : Hid (∀ w, Srt w b xs → Fr (fun k => k = b) W w → (p : Int) < s → (s : Int) < d → Calls Try.prog 71 #[.slice (some ⟨b, 0, none⟩) xs.length cap, .int .i64 (p : Int), .int .i64 (s : Int), .int .i64 (d : Int), .func (.func 61) #[] #[.pointer (some ⟨x, 0, none⟩)]] w fun e w' => e = .returned (.tuple #[]) ∧ Srt w' b xs ∧ Fr (fun k => k = b) w w') := fun w a1 a2 a3 a4 => HSY.out w p s d a1 a2 (by omega) (by omega) (by omega) (by have := HD.out; have := HN.out; omega)
        have HU : Hid (∀ w, Srt w b xs → Fr (fun k => k = b) W w → (d : Int) < e → (e : Int) < q → Calls Try.prog 71 #[.slice (some ⟨b, 0, none⟩) xs.length cap, .int .i64 (d : Int), .int .i64 (e : Int), .int .i64 (q : Int), .func (.func 61) #[] #[.pointer (some ⟨x, 0, none⟩)]] w fun e w' => e = .returned (.tuple #[]) ∧ Srt w' b xs ∧ Fr (fun k => k = b) w w') := fun w a1 a2 a3 a4 => HSY.out w d e q a1 a2 (by omega) (by omega) (by omega) (by have := HD.out; have := HN.out; omega)
        clear HSY HRT HI HC HX r1 r2
        go_upto_region 39 with (fail)
        go_cut [185] from 178 to 185 (fun vb w7 => ∃ q7 : Bool, vb = Value.bool q7 ∧ (q7 = true → (s : Int) < m ∧ (m : Int) < e) ∧ Hid (Srt w7 b xs ∧ Fr (fun k => k = b) W w7))
        case first =>
          by_cases b1 : (s : Int) < m
          · by_cases b2 : (m : Int) < e
            · go_wp2
              go_meet
              exact ⟨_, rfl, fun _ => ⟨b1, b2⟩, HSS.out, HFF.out⟩
            · go_wp2
              go_meet
              exact ⟨false, rfl, (fun h => nomatch h), HSS.out, HFF.out⟩
          · have g1 : decide ((s : Int) < m) = false := decide_eq_false b1
            have g1n : decide (s < m) = false := decide_eq_false (by omega)
            clear b1
            go_wp2
            go_meet
            exact ⟨false, rfl, (fun h => nomatch h), HSS.out, HFF.out⟩
        case rest =>
          obtain ⟨q7, rfl, hq7, HH⟩ := hcut
          have HQ := Lib.hid hq7
          have HSS := Lib.hid HH.out.1
          have HFF := Lib.hid HH.out.2
          clear hq7 HH
          go_upto_if 185 with (fail)
          go_cut [] from 186 to 191 (fun w7 => Hid (Srt w7 b xs ∧ Fr (fun k => k = b) W w7))
          case first =>
            cases q7
            · go_wp2
              go_meet
              exact ⟨HSS.out, HFF.out⟩
            · obtain ⟨h1, h2⟩ := HQ.out rfl
              go_wp2_with (go_at_call 72; refine (HR.out _ HSS.out (by omega) (by omega)).mono ?_; rintro e2 w2 ⟨rfl, hs2, hf2⟩; have HS2 := Lib.hid hs2; have HF2 := Lib.hid (HFF.out.trans hf2); clear hs2 hf2)
              go_meet
              exact ⟨HS2.out, HF2.out⟩
          case rest =>
            have HSS := Lib.hid hcut.out.1
            have HFF := Lib.hid hcut.out.2
            clear hcut
            go_upto_region 41 with (fail)
            go_cut [199] from 192 to 199 (fun vb w7 => ∃ q7 : Bool, vb = Value.bool q7 ∧ (q7 = true → (p : Int) < s ∧ (s : Int) < d) ∧ Hid (Srt w7 b xs ∧ Fr (fun k => k = b) W w7))
            case first =>
              by_cases b1 : (p : Int) < s
              · by_cases b2 : (s : Int) < d
                · go_wp2
                  go_meet
                  exact ⟨_, rfl, fun _ => ⟨b1, b2⟩, HSS.out, HFF.out⟩
                · go_wp2
                  go_meet
                  exact ⟨false, rfl, (fun h => nomatch h), HSS.out, HFF.out⟩
              · have g1 : decide ((p : Int) < s) = false := decide_eq_false b1
                have g1n : decide (p < s) = false := decide_eq_false (by omega)
                clear b1
                go_wp2
                go_meet
                exact ⟨false, rfl, (fun h => nomatch h), HSS.out, HFF.out⟩
            case rest =>
              obtain ⟨q7, rfl, hq7, HH⟩ := hcut
              have HQ := Lib.hid hq7
              have HSS := Lib.hid HH.out.1
              have HFF := Lib.hid HH.out.2
              clear hq7 HH
              go_upto_if 199 with (fail)
              go_cut [] from 200 to 205 (fun w7 => Hid (Srt w7 b xs ∧ Fr (fun k => k = b) W w7))
              case first =>
                cases q7
                · go_wp2
                  go_meet
                  exact ⟨HSS.out, HFF.out⟩
                · obtain ⟨h1, h2⟩ := HQ.out rfl
                  go_wp2_with (go_at_call 71; refine (HL.out _ HSS.out HFF.out (by omega) (by omega)).mono ?_; rintro e2 w2 ⟨rfl, hs2, hf2⟩; have HS2 := Lib.hid hs2; have HF2 := Lib.hid (HFF.out.trans hf2); clear hs2 hf2)
                  go_meet
                  exact ⟨HS2.out, HF2.out⟩
              case rest =>
                have HSS := Lib.hid hcut.out.1
                have HFF := Lib.hid hcut.out.2
                clear hcut
                go_upto_region 43 with (fail)
                go_cut [213] from 206 to 213 (fun vb w7 => ∃ q7 : Bool, vb = Value.bool q7 ∧ (q7 = true → (d : Int) < e ∧ (e : Int) < q) ∧ Hid (Srt w7 b xs ∧ Fr (fun k => k = b) W w7))
                case first =>
                  by_cases b1 : (d : Int) < e
                  · by_cases b2 : (e : Int) < q
                    · go_wp2
                      go_meet
                      exact ⟨_, rfl, fun _ => ⟨b1, b2⟩, HSS.out, HFF.out⟩
                    · go_wp2
                      go_meet
                      exact ⟨false, rfl, (fun h => nomatch h), HSS.out, HFF.out⟩
                  · have g1 : decide ((d : Int) < e) = false := decide_eq_false b1
                    have g1n : decide (d < e) = false := decide_eq_false (by omega)
                    clear b1
                    go_wp2
                    go_meet
                    exact ⟨false, rfl, (fun h => nomatch h), HSS.out, HFF.out⟩
                case rest =>
                  obtain ⟨q7, rfl, hq7, HH⟩ := hcut
                  have HQ := Lib.hid hq7
                  have HSS := Lib.hid HH.out.1
                  have HFF := Lib.hid HH.out.2
                  clear hq7 HH
                  cases q7
                  · go_wp2
                    go_end0
                    exact ⟨rfl, HSS.out, HFF.out⟩
                  · obtain ⟨h1, h2⟩ := HQ.out rfl
                    go_wp2_with (go_at_call 71; refine (HU.out _ HSS.out HFF.out (by omega) (by omega)).mono ?_; rintro e2 w2 ⟨rfl, hs2, hf2⟩; have HS2 := Lib.hid hs2; have HF2 := Lib.hid (HFF.out.trans hf2); clear hs2 hf2)
                    go_end0
                    exact ⟨rfl, HS2.out, HF2.out⟩
end Go.Proofs.Yteikipiigbjgbaa
