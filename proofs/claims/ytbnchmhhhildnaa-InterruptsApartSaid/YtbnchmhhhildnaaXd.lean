/- Interrupts: the keys of the maps; a controller in memory. -/
import Derived.Test.YtbnchmhhhildnaaXc
import Derived.Laws.AppendOwn
import Derived.Laws.MakeOwn
import Derived.Deep.AppendLies
namespace Go.Proofs.Ytbnchmhhhildnaa
open Go.RowKit Go.Maps Go.WideMaps Go.ChangeMaps
set_option linter.unusedVariables false

abbrev isW (x : Int) : Prop := (Lit.int .i64 x).wf = true
def cE (e : Int × Int) : Value := .agg #[.int .i64 e.1, .int .i64 e.2]
theorem cE_inj {e f : Int × Int} (h : cE e = cE f) : e = f := by
  obtain ⟨a, b⟩ := e; obtain ⟨c, d⟩ := f
  simp [cE] at h
  rw [h.1, h.2]
theorem laidOut : laidOutB Try.prog = true := by kernel_rfl
theorem rowCnt : (81 : TypeId) < Try.prog.types.size := of_decide_eq_true (by kernel_rfl)
theorem wideCnt : (match Try.prog.underlying 81 with | some (.array _ _) | some (.struct _) => true | _ => false) = true := by rw [Try.underlying81]
set_option maxRecDepth 100000 in
theorem tiledCnt : Try.prog.keyTypeAt 2 81 = true := by kernel_rfl
set_option maxRecDepth 100000 in
theorem lawCnt : Go.Maps.Keyed Try.prog 81 := Go.Maps.Keyed.of_law (deep_law_laid laidOut (m := 2) (by omega) rowCnt tiledCnt wideCnt)
theorem cellsCnt : Try.prog.cellsOf 81 = 2 := by kernel_rfl
theorem cellsInt : Try.prog.cellsOf 3 = 1 := by kernel_rfl
theorem keyCnt : Try.prog.keyType 81 = true := by kernel_rfl
theorem typesSize : ∃ k, Try.prog.types.size + 1 = k + 2 := ⟨Try.prog.types.size - 1, by have : 0 < Try.prog.types.size := of_decide_eq_true (by kernel_rfl); omega⟩
theorem kl_int (k : Nat) {x : Int} (h : (Lit.int .i64 x).wf = true) : Try.prog.keyLits (k + 1) 3 [.int .i64 x] = some [.int .i64 x] := by
  unfold Program.keyLits
  rw [Try.underlying3]
  simp only [h, and_self, if_true]
theorem kl_cnt (k : Nat) {x y : Int} (h1 : (Lit.int .i64 x).wf = true) (h2 : (Lit.int .i64 y).wf = true) : Try.prog.keyLits (k + 2) 81 [.int .i64 x, .int .i64 y] = some [.int .i64 x, .int .i64 y] := by
  have e1 := kl_int k h1
  have e2 := kl_int k h2
  unfold Program.keyLits
  rw [Try.underlying81]
  simp only [cellsCnt]
  simp
  rw [cellsInt]
  simp [e1, e2]
theorem formedCnt (x y : Value) : (Value.agg #[x, y]).formed Try.prog 81 = true := by
  unfold Value.formed
  simp only [Try.underlying81, cellsCnt]
  rfl
theorem keyC {e : Int × Int} (he : isW e.1 ∧ isW e.2) : ∃ l, keyOf Try.prog 81 (cE e) = some l := by
  obtain ⟨x, y⟩ := e
  obtain ⟨k, hk⟩ := typesSize
  refine ⟨.string (keyBytes [.int .i64 x, .int .i64 y]), ?_⟩
  have h3 : Try.prog.keyLits (Try.prog.types.size + 1) 81 (cE (x, y)).cells.toList = some [.int .i64 x, .int .i64 y] := by rw [hk]; exact kl_cnt k he.1 he.2
  unfold keyOf
  rw [Try.underlying81]
  simp only [keyCnt, cE, formedCnt, Bool.and_self, if_true]
  rw [show (Value.agg #[Value.int IntKind.i64 (x, y).1, Value.int IntKind.i64 (x, y).2]) = cE (x, y) from rfl, h3]
  rfl
/-- Counts by line and number. -/
def kC : KeyK where
  K := Int × Int
  dec := inferInstance
  t := 81
  m := 59
  e := 3
  ek := cE
  ok e := isW e.1 ∧ isW e.2
  inj := cE_inj
  law := lawCnt
  key := keyC
  und := Try.underlying59
  zero W := by kernel_rfl
def iE (x : Int) : Value := .int .i64 x
/-- Threads by number. -/
def kT : KeyK where
  K := Int
  dec := inferInstance
  t := 3
  m := 60
  e := 89
  ek := iE
  ok := isW
  inj h := by simp [iE] at h; exact h
  law := keyedI
  key h := ⟨_, key6 h⟩
  und := Try.underlying60
  zero W := by kernel_rfl

/-- A line: the block of its channel, the order of its attachments, whether it is pending, its spurious interrupts. -/
structure IL where
  ch : Nat
  o : List Int
  p : Bool
  s : Int
/-- A controller. -/
structure IS where
  ls : List IL
  att : TS
  cn : Int × Int → Int
  th : Int → Int
def iv (l : List Int) : List Value := l.map (Value.int .i64)
theorem iv_len (l : List Int) : (iv l).length = l.length := by simp [iv]
/-- The lines' row, in block b: these lines, whose orders are these slices. -/
def LC (W : World) (b : Nat) (ls : List IL) (vs : List Value) : Prop :=
  ∃ cur, W.heap[b]? = some (.cells cur 66 (0, 0)) ∧ ∀ (i : Nat) (l : IL) (v : Value), ls[i]? = some l → vs[i]? = some v →
    cur[i * 4]? = some (.chan (some l.ch)) ∧ cur[i * 4 + 1]? = some v ∧ cur[i * 4 + 2]? = some (.bool l.p) ∧ cur[i * 4 + 3]? = some (.int .i64 l.s)
/-- A line's order in memory. -/
def OL (W : World) (v : Value) (o : List Int) : Prop := W.ownsRow 0 3 1 v o.length (iv o)
/-- Where a controller lies: the lines' block and its capacity, the three maps, the orders' slices. -/
structure LY where
  b : Nat
  cap : Nat
  a : Nat
  c : Nat
  t : Nat
  vs : List Value
/-- Block B is a controller; O: the blocks that are its own. -/
structure CM (W : World) (O : Nat → Prop) (B : Nat) (y : LY) (s : IS) : Prop where
  row : RowAt W B 63 #[.slice (some ⟨y.b, 0, none⟩) s.ls.length y.cap, .map (some y.a), .map (some y.c), .map (some y.t)]
  lines : LC W y.b s.ls y.vs
  len : y.vs.length = s.ls.length
  ord : ∀ (i : Nat) (l : IL) (v : Value), s.ls[i]? = some l → y.vs[i]? = some v → OL W v l.o
  apart : ∀ (i j : Nat) (v u : Value) (k : Nat), y.vs[i]? = some v → y.vs[j]? = some u → v.ownBlock = some k → u.ownBlock = some k → i = j
  ma : TM W y.a s.att
  mc : GZ kC W y.c s.cn
  mt : GZ kT W y.t s.th
  ac : y.a ≠ y.c
  at_ : y.a ≠ y.t
  ct : y.c ≠ y.t
  oB : O B
  ob : O y.b
  oa : O y.a
  oc : O y.c
  ot : O y.t
  ov : ∀ (i : Nat) (v : Value) (k : Nat), y.vs[i]? = some v → v.ownBlock = some k → O k
  top : ∀ k, O k → k < W.heap.size
/-- The invariant of what a controller holds. -/
structure IOk (s : IS) : Prop where
  n0 : 0 < s.ls.length
  n1 : s.ls.length ≤ 64
  srt : SortedT s.att
  key : ∀ p ∈ s.att, 0 ≤ p.1 ∧ p.1 < 100
  cnt : s.att.length ≤ 100
  ord : ∀ (i : Nat) (l : IL) (x : Int), s.ls[i]? = some l → (x ∈ l.o ↔ ∃ t, get s.att x = some t ∧ t.l = i)
  dup : ∀ (i : Nat) (l : IL), s.ls[i]? = some l → l.o.Nodup
  lin : ∀ x t, get s.att x = some t → 0 ≤ t.l ∧ t.l < s.ls.length ∧ (t.k = 4 → 0 ≤ t.c ∧ t.c < 256)
  c0 : ∀ k, 0 ≤ s.cn k
  c1 : ∀ k, s.cn k ≤ 1000
  cz : ∀ (i : Nat) (x : Int), s.cn ((i : Int), x) ≠ 0 → x = -1 ∨ ∃ t, get s.att x = some t ∧ t.l = i
def CQ (W : World) (O : Nat → Prop) (B : Nat) (s : IS) : Prop := (∃ y, CM W O B y s) ∧ IOk s
end Go.Proofs.Ytbnchmhhhildnaa
