/- ReadyFIFO: the walk. -/
import Derived.Test.YtibmmonboeifhaaYz
namespace Go.Proofs.Ytibmmonboeifhaa
open Go.RowKit Go.Shelf
set_option linter.unusedVariables false

set_option maxRecDepth 100000 in
set_option maxHeartbeats 4000000 in
theorem fifo_walk (a : Option Addr) (cap : Nat) (A : List ActR) (hn : A.length ≤ 60) (c : Nat) (hc : c < 256) (w : World) (hA : ActsIn w a A) : Calls Try.prog 4 #[.slice a A.length cap, .int .u8 c] w fun e w' => e = .returned (.bool true) ∧ w.grownBy w' none := by
  have h60 : ¬ (60 : Int) < A.length := by omega
  have c0 : (0 : Int) ≤ c := by omega
  have c255 : (c : Int) < 256 := by omega
  have HL := Lib.hid hn
  have HA := Lib.hid hA
  have HN : Hid (Calls Try.prog 10 #[] w fun e W' => e = .returned (.pointer (some ⟨w.heap.size, 0, none⟩)) ∧ AW noL (fun _ => 0) w W') := (new_any w).mono fun e W' ⟨he, hg, hq⟩ => ⟨he, hq, below_grown hg⟩
  have HS : Hid ((Try.prog.info? 32).map (·.size) = some 6) := by show _ = _; kernel_rfl
  obtain ⟨i0, hi0, hz0, hz1, hz2⟩ := info_parts Try.info_int
  have HI0 := Lib.hid hi0
  have HZ0 := Lib.hid hz0
  have HZ1 := Lib.hid hz1
  have HZ2 := Lib.hid hz2
  clear hn hA hc hi0 hz0 hz1 hz2
  go_enter Try.func4, Try.ntmps4
  go_wp2_with (go_at_call 10; refine HN.out.mono ?_; rintro e W1 ⟨rfl, a1⟩)
  have HF : Hid (FifoI w c (.slice none 0 0) W1) := ⟨_, _, a1, fun t => .inl rfl, World.ownsRow_nil _ _ _ _⟩
  clear a1
  go_loopw [6, 7, 8] (fun vw vi vx wr => ∃ i : Nat, vi = .int .i64 i ∧ Hid (i ≤ A.length ∧ FifoI w c vw wr)) (fun vw vi vx _ => A.length - (intOf vi).toNat)
  case atStart => exact ⟨0, rfl, Nat.zero_le _, HF.out⟩
  case round =>
    obtain ⟨i, rfl, HR⟩ := hrel
    by_cases hi : i < A.length
    · have HI := Lib.hid hi
      obtain ⟨b, off, x, rfl, hx, hr, d0, d1⟩ := HA.out.get HR.out.2.choose_spec.choose_spec.1.2 hi
      have HRR := Lib.hid hr
      have i1 : (0 : Int) ≤ i := by omega
      have i2 : (i : Int) < A.length := by omega
      clear hi hx hr
      go_upto_region 9 with (first
        | (refine wpList_load_mid rfl 32 _ rfl b (off + i * 6) rfl (actC x) _ HRR.out Try.underlying32 rfl HS.out ?_)
        | (refine wpList_store_row rfl 32 (Operand.tmp 8) (Operand.tmp 31) rfl wr.heap.size (actC x).toArray rfl rfl 32 _ (World.alloc_heap_new _ _) HS.out rfl (actC_one x) ?_; rw [World.setRow_alloc_new]))
      have HRW := Lib.hid (RowAt.new wr 32 (actC x).toArray)
      have HF2 := Lib.hid (HR.out.2.keep (grown_alloc wr (.cells (actC x).toArray 32) none))
      have HNE : Hid (wr.heap.size ≠ w.heap.size) := by
        obtain ⟨ls, mk, h1, _⟩ := HR.out.2
        have := h1.1.lt
        show _ ≠ _
        omega
      clear HRR
      generalize World.alloc wr _ = W2 at HRW HF2 ⊢
      generalize wr.heap.size = bx at HRW HNE ⊢
      have e0 : W2.cell? ⟨bx, 0, none⟩ = some (.int .u8 x.d) := HRW.out.cell 0
      have e1 : W2.cell? ⟨bx, 1, none⟩ = some (.int .i64 x.t) := HRW.out.cell 1
      have e2 : W2.cell? ⟨bx, 2, none⟩ = some (.int .i64 x.p) := HRW.out.cell 2
      have e5 : W2.cell? ⟨bx, 5, none⟩ = some (.bool x.f) := HRW.out.cell 5
      have HE1 : Hid (∀ W3 : World, W2.grownBy W3 (some w.heap.size) → W3.cell? ⟨bx, 1, none⟩ = some (.int .i64 x.t)) := fun W3 hg => (HRW.out.kept hg (by simpa using HNE.out)).cell 1
      clear HRW
      generalize x.d = xd at d0 d1 e0
      generalize x.t = xt at e1 HE1
      generalize x.p = xp at e2
      generalize x.f = xf at e5
      by_cases hd : xd % 2 = 0
      · have hd' : (xd % 2 == 0) = true := by simpa using hd
        clear hd
        rcases fifo_add1 HF2.out xt with HA1 | ⟨z, hz, HA1⟩
        · have HA2 := Lib.hid HA1
          clear HA1
          go_upto_region 11 with (go_at_call 18; refine HA2.out.mono ?_; rintro e W3 ⟨rfl, ls, mk, l, H1, h2, hg⟩; have e1' := HE1.out W3 hg; have H2 := Lib.hid h2; clear h2 hg)
          clear HA2 e0 e1 e2 e5 hd'
          go_wp2_with (at_builtin; refine wpList_append_own _ rfl _ _ 34 rfl (w.heap.size + 1) 3 i0 (.int .i64 0) 1 8 Try.underlying34 HI0.out HZ0.out HZ1.out HZ2.out rfl (by decide) _ _ _ rfl (H2.out.alloc _) ⟨W3.heap.size, 0, none⟩ 1 1 [.int .i64 xt] rfl rfl ?c1 ?c2 ?c3 ?c4 ?c5 ?_)
          case c1 => exact news_row W3 _ [.int .i64 xt]
          case c2 => simp [Value.oneCell']
          case c3 => have := H1.out.1.few1 c; rw [H1.out.2.2.1, List.length_append] at this; unfold maxLen; omega
          case c4 => have := H1.out.1.few1 c; rw [H1.out.2.2.1, List.length_append] at this; omega
          case c5 => have := H1.out.1.1.lt; simp; omega
          intro v' w1 hown hgrow _
          have HF4 := Lib.hid (FifoI.append H1.out.1 H1.out.2.1 H1.out.2.2.1 H1.out.2.2.2 hown hgrow (fun k e => (H2.out.lt k e).1))
          clear hown hgrow
          go_wp2
          go_roundw
          case rel => exact ⟨i + 1, rfl, HI.out, HF4.out⟩
          case measure =>
            have := HI.out
            show A.length - (intOf (Value.int .i64 ((i : Int) + 1))).toNat < A.length - (intOf (Value.int .i64 (i : Int))).toNat
            simp only [intOf]
            omega
        · have HA2 := Lib.hid HA1
          clear HA1
          go_wp2_with (go_at_call 18; refine HA2.out.mono ?_; rintro e W3 ⟨rfl, h1⟩; have HF4 := Lib.hid h1; clear h1)
          go_roundw
          case rel => exact ⟨i + 1, rfl, HI.out, HF4.out⟩
          case measure =>
            have := HI.out
            show A.length - (intOf (Value.int .i64 ((i : Int) + 1))).toNat < A.length - (intOf (Value.int .i64 (i : Int))).toNat
            simp only [intOf]
            omega
      · have hd' : (xd % 2 == 0) = false := by simpa using hd
        clear hd
        by_cases hp : xp = c
        · have hp' : (xp != (c : Int)) = false := by simpa using hp
          clear hp
          go_wp2
          go_roundw
          case rel => exact ⟨i + 1, rfl, HI.out, HF2.out⟩
          case measure =>
            have := HI.out
            show A.length - (intOf (Value.int .i64 ((i : Int) + 1))).toNat < A.length - (intOf (Value.int .i64 (i : Int))).toNat
            simp only [intOf]
            omega
        · have hp' : (xp != (c : Int)) = true := by simpa using hp
          have HA2 := Lib.hid (fifo_add2 HF2.out xt xp xf hp)
          clear hp
          go_wp2_with (go_at_call 18; refine HA2.out.mono ?_; rintro e W3 ⟨z, rfl, h1⟩; have HF4 := Lib.hid h1; clear h1)
          go_roundw
          case rel => exact ⟨i + 1, rfl, HI.out, HF4.out⟩
          case measure =>
            have := HI.out
            show A.length - (intOf (Value.int .i64 ((i : Int) + 1))).toNat < A.length - (intOf (Value.int .i64 (i : Int))).toNat
            simp only [intOf]
            omega
    · obtain rfl : i = A.length := by have := HR.out.1; omega
      have hlt : ¬ (A.length : Int) < A.length := by omega
      obtain ⟨ls, mk, h1, h2, h3⟩ := HR.out.2
      have HLEN := Lib.hid (len_any h1.1)
      have HW : Hid ((ls c).length ≤ 65536) := Nat.le_trans (h1.few1 c) (by decide)
      have HJ := Lib.hid (fifoJ_start h1 h2 h3)
      have HN0 := Lib.hid h1.few
      clear hi h1 h2 h3 HA HF HR
      go_wp2_with (go_at_call 15; refine HLEN.out.mono ?_; rintro e w' ⟨rfl, rfl⟩)
      generalize (order ls).length = n0 at HJ HN0 ⊢
      generalize ls c = want at HJ HW ⊢
      generalize wr.heap.size = N1 at HJ
      go_loopw [9, 10, 11, 12, 13, 14, 15, 16] (fun vg vn v1 v2 v3 v4 v5 v6 wq => ∃ n : Nat, vn = .int .i64 n ∧ Hid (n ≤ 65536 ∧ FifoJ w c N1 want u6 n vg wq)) (fun vg vn v1 v2 v3 v4 v5 v6 _ => (intOf vn).toNat)
      case atStart => exact ⟨n0, rfl, HN0.out, HJ.out⟩
      case round =>
        obtain ⟨n, rfl, HR⟩ := hrel
        by_cases hn : 0 < n
        · have hn0 : (0 : Int) < n := by omega
          have hn1 : (n : Int) ≤ 65536 := by have := HR.out.1; omega
          obtain ⟨x, p, G, X, ls2, ls3, mk2, mk3, HF0, HB, HP, HT, HLN, hcase⟩ := fifo_take HR.out.2 hn
          rcases hcase with ⟨hpc, rfl⟩ | ⟨hpc, rfl⟩
          · have hpc' : ((p : Int) == c) = true := by rw [hpc]; simp
            clear hpc
            go_upto_region 24 with (first
              | (go_at_call 19; refine (HB.out _ HF0.out).mono ?_; rintro e W3 ⟨rfl, f3⟩; have F3 := Lib.hid f3; clear f3)
              | (go_at_call 20; refine (HP.out _ F3.out).mono ?_; rintro e w' ⟨rfl, rfl⟩)
              | (go_at_call 21; refine (HT.out _ F3.out).mono ?_; rintro e W4 ⟨rfl, f4⟩; have F4 := Lib.hid f4; clear f4))
            clear hpc' HB HP HT
            go_wp2_with (at_builtin; refine wpList_append_own _ rfl _ _ 34 rfl N1 3 i0 (.int .i64 0) 1 8 Try.underlying34 HI0.out HZ0.out HZ1.out HZ2.out rfl (by decide) _ _ _ rfl (F4.out.og.alloc _) ⟨W4.heap.size, 0, none⟩ 1 1 [.int .i64 x] rfl rfl ?c1 ?c2 ?c3 ?c4 ?c5 ?_)
            case c1 => exact news_row W4 _ [.int .i64 x]
            case c2 => simp [Value.oneCell']
            case c3 => have h1 := HW.out; have h2 := congrArg List.length F4.out.eq; rw [List.length_append, List.length_append] at h2; unfold maxLen; omega
            case c4 => have h1 := HW.out; have h2 := congrArg List.length F4.out.eq; rw [List.length_append, List.length_append] at h2; omega
            case c5 => have := F4.out.le; simp; omega
            intro v' w1 hown hgrow _
            have HF4 := Lib.hid (F4.out.append hown hgrow)
            clear hown hgrow
            go_wp2
            go_roundw
            case rel => exact ⟨n - 1, by have := hn0; congr 1; omega, by have := HR.out.1; omega, by have := HF4.out; rw [show (order ls3).length = n - 1 from by have := HLN.out; omega] at this; exact this⟩
            case measure =>
              have := hn
              show (intOf (Value.int .i64 ((n : Int) - 1))).toNat < (intOf (Value.int .i64 (n : Int))).toNat
              simp only [intOf]
              omega
          · have hpc' : ((p : Int) == c) = false := by simp; omega
            clear hpc
            go_wp2_with (first
              | (go_at_call 19; refine (HB.out _ HF0.out).mono ?_; rintro e W3 ⟨rfl, f3⟩; have F3 := Lib.hid f3; clear f3)
              | (go_at_call 20; refine (HP.out _ F3.out).mono ?_; rintro e w' ⟨rfl, rfl⟩)
              | (go_at_call 21; refine (HT.out _ F3.out).mono ?_; rintro e W4 ⟨rfl, f4⟩; have F4 := Lib.hid f4; clear f4))
            go_roundw
            case rel => exact ⟨n - 1, by have := hn0; congr 1; omega, by have := HR.out.1; omega, by have := F4.out.next; rw [show (order ls3).length = n - 1 from by have := HLN.out; omega] at this; exact this⟩
            case measure =>
              have := hn
              show (intOf (Value.int .i64 ((n : Int) - 1))).toNat < (intOf (Value.int .i64 (n : Int))).toNat
              simp only [intOf]
              omega
        · obtain rfl : n = 0 := by omega
          have HE := Lib.hid (HR.out.2.done HW.out)
          have h00 : ¬ (0 : Int) < 0 := by omega
          clear hn
          go_wp2_with (first
            | (go_at_call 12; refine HE.out.mono ?_; rintro e W3 ⟨rfl, g3⟩)
            | (go_at_call 9; refine (awake_any _).mono ?_; rintro e W4 ⟨rfl, g4⟩))
          go_ret
          exact ⟨rfl, grown_trans g3 g4⟩
end Go.Proofs.Ytibmmonboeifhaa
