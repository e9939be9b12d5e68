/- Package sched: the deferred closures of the exported functions: what was recovered becomes the error. -/
import Derived.Test.YtjaaljcdaamcjaaGreatDa
namespace Go.Proofs.YtjaaljcdaamcjaaGreat
open Go.RowKit
set_option linter.unusedVariables false
set_option linter.unusedSimpArgs false

set_option maxRecDepth 100000 in
theorem finNew (p : Addr) (x : Int) (z : Int) (older : List PanicEntry) (w : World) (hc : w.cell? p = some (.int .i64 x)) (hz : w.frozen? p = false) :
    CallsD Tryz.prog 33 #[.pointer (some p)] (.panicking (failE z :: older)) w fun e u' w' => e = .returned (.tuple #[]) ∧ u' = .panicking ({ v := .iface 153 (.int .i64 z), recovered := true } :: older) ∧ w' = w.setCell p (.int .i64 z) := by
  refine callsD_of_wpS Tryz.func33 rfl fun c₀ cs hu => ?_
  apply wpS_region
  simp [wpOpsS, go_sem, recoverD, hu, failE, Tryz.ntmps33]
  refine (caught_fail z w).mono ?_
  rintro e w' ⟨rfl, rfl⟩
  simp [go_sem, storeCells, hc, hz, bodyPostS, results, Tryz.results33, Result.andThen]
set_option maxRecDepth 100000 in
theorem endNew (p : Addr) (x : Int) (w : World) (hc : w.cell? p = some (.int .i64 x)) (hz : w.frozen? p = false) :
    CallsD Tryz.prog 33 #[.pointer (some p)] .returning w fun e u' w' => e = .returned (.tuple #[]) ∧ u' = .returning ∧ w' = w.setCell p (.int .i64 0) := by
  refine callsD_of_wpS Tryz.func33 rfl fun c₀ cs hu => ?_
  apply wpS_region
  simp [wpOpsS, go_sem, recoverD, hu, Tryz.ntmps33]
  refine (caught_nil w).mono ?_
  rintro e w' ⟨rfl, rfl⟩
  simp [go_sem, storeCells, hc, hz, bodyPostS, results, Tryz.results33, Result.andThen]
  cases c₀
  simp only at hu
  subst hu
  rfl

set_option maxRecDepth 100000 in
theorem finPick (p : Addr) (x : Int) (z : Int) (older : List PanicEntry) (w : World) (hc : w.cell? p = some (.int .i64 x)) (hz : w.frozen? p = false) :
    CallsD Tryz.prog 43 #[.pointer (some p)] (.panicking (failE z :: older)) w fun e u' w' => e = .returned (.tuple #[]) ∧ u' = .panicking ({ v := .iface 153 (.int .i64 z), recovered := true } :: older) ∧ w' = w.setCell p (.int .i64 z) := by
  refine callsD_of_wpS Tryz.func43 rfl fun c₀ cs hu => ?_
  apply wpS_region
  simp [wpOpsS, go_sem, recoverD, hu, failE, Tryz.ntmps43]
  refine (caught_fail z w).mono ?_
  rintro e w' ⟨rfl, rfl⟩
  simp [go_sem, storeCells, hc, hz, bodyPostS, results, Tryz.results43, Result.andThen]
set_option maxRecDepth 100000 in
theorem endPick (p : Addr) (x : Int) (w : World) (hc : w.cell? p = some (.int .i64 x)) (hz : w.frozen? p = false) :
    CallsD Tryz.prog 43 #[.pointer (some p)] .returning w fun e u' w' => e = .returned (.tuple #[]) ∧ u' = .returning ∧ w' = w.setCell p (.int .i64 0) := by
  refine callsD_of_wpS Tryz.func43 rfl fun c₀ cs hu => ?_
  apply wpS_region
  simp [wpOpsS, go_sem, recoverD, hu, Tryz.ntmps43]
  refine (caught_nil w).mono ?_
  rintro e w' ⟨rfl, rfl⟩
  simp [go_sem, storeCells, hc, hz, bodyPostS, results, Tryz.results43, Result.andThen]
  cases c₀
  simp only at hu
  subst hu
  rfl

set_option maxRecDepth 100000 in
theorem finCharge (p : Addr) (x : Int) (z : Int) (older : List PanicEntry) (w : World) (hc : w.cell? p = some (.int .i64 x)) (hz : w.frozen? p = false) :
    CallsD Tryz.prog 56 #[.pointer (some p)] (.panicking (failE z :: older)) w fun e u' w' => e = .returned (.tuple #[]) ∧ u' = .panicking ({ v := .iface 153 (.int .i64 z), recovered := true } :: older) ∧ w' = w.setCell p (.int .i64 z) := by
  refine callsD_of_wpS Tryz.func56 rfl fun c₀ cs hu => ?_
  apply wpS_region
  simp [wpOpsS, go_sem, recoverD, hu, failE, Tryz.ntmps56]
  refine (caught_fail z w).mono ?_
  rintro e w' ⟨rfl, rfl⟩
  simp [go_sem, storeCells, hc, hz, bodyPostS, results, Tryz.results56, Result.andThen]
set_option maxRecDepth 100000 in
theorem endCharge (p : Addr) (x : Int) (w : World) (hc : w.cell? p = some (.int .i64 x)) (hz : w.frozen? p = false) :
    CallsD Tryz.prog 56 #[.pointer (some p)] .returning w fun e u' w' => e = .returned (.tuple #[]) ∧ u' = .returning ∧ w' = w.setCell p (.int .i64 0) := by
  refine callsD_of_wpS Tryz.func56 rfl fun c₀ cs hu => ?_
  apply wpS_region
  simp [wpOpsS, go_sem, recoverD, hu, Tryz.ntmps56]
  refine (caught_nil w).mono ?_
  rintro e w' ⟨rfl, rfl⟩
  simp [go_sem, storeCells, hc, hz, bodyPostS, results, Tryz.results56, Result.andThen]
  cases c₀
  simp only at hu
  subst hu
  rfl

set_option maxRecDepth 100000 in
theorem finRanking (p : Addr) (x : Int) (z : Int) (older : List PanicEntry) (w : World) (hc : w.cell? p = some (.int .i64 x)) (hz : w.frozen? p = false) :
    CallsD Tryz.prog 66 #[.pointer (some p)] (.panicking (failE z :: older)) w fun e u' w' => e = .returned (.tuple #[]) ∧ u' = .panicking ({ v := .iface 153 (.int .i64 z), recovered := true } :: older) ∧ w' = w.setCell p (.int .i64 z) := by
  refine callsD_of_wpS Tryz.func66 rfl fun c₀ cs hu => ?_
  apply wpS_region
  simp [wpOpsS, go_sem, recoverD, hu, failE, Tryz.ntmps66]
  refine (caught_fail z w).mono ?_
  rintro e w' ⟨rfl, rfl⟩
  simp [go_sem, storeCells, hc, hz, bodyPostS, results, Tryz.results66, Result.andThen]
set_option maxRecDepth 100000 in
theorem endRanking (p : Addr) (x : Int) (w : World) (hc : w.cell? p = some (.int .i64 x)) (hz : w.frozen? p = false) :
    CallsD Tryz.prog 66 #[.pointer (some p)] .returning w fun e u' w' => e = .returned (.tuple #[]) ∧ u' = .returning ∧ w' = w.setCell p (.int .i64 0) := by
  refine callsD_of_wpS Tryz.func66 rfl fun c₀ cs hu => ?_
  apply wpS_region
  simp [wpOpsS, go_sem, recoverD, hu, Tryz.ntmps66]
  refine (caught_nil w).mono ?_
  rintro e w' ⟨rfl, rfl⟩
  simp [go_sem, storeCells, hc, hz, bodyPostS, results, Tryz.results66, Result.andThen]
  cases c₀
  simp only at hu
  subst hu
  rfl

set_option maxRecDepth 100000 in
theorem finAdd (p : Addr) (x : Int) (z : Int) (older : List PanicEntry) (w : World) (hc : w.cell? p = some (.int .i64 x)) (hz : w.frozen? p = false) :
    CallsD Tryz.prog 67 #[.pointer (some p)] (.panicking (failE z :: older)) w fun e u' w' => e = .returned (.tuple #[]) ∧ u' = .panicking ({ v := .iface 153 (.int .i64 z), recovered := true } :: older) ∧ w' = w.setCell p (.int .i64 z) := by
  refine callsD_of_wpS Tryz.func67 rfl fun c₀ cs hu => ?_
  apply wpS_region
  simp [wpOpsS, go_sem, recoverD, hu, failE, Tryz.ntmps67]
  refine (caught_fail z w).mono ?_
  rintro e w' ⟨rfl, rfl⟩
  simp [go_sem, storeCells, hc, hz, bodyPostS, results, Tryz.results67, Result.andThen]
set_option maxRecDepth 100000 in
theorem endAdd (p : Addr) (x : Int) (w : World) (hc : w.cell? p = some (.int .i64 x)) (hz : w.frozen? p = false) :
    CallsD Tryz.prog 67 #[.pointer (some p)] .returning w fun e u' w' => e = .returned (.tuple #[]) ∧ u' = .returning ∧ w' = w.setCell p (.int .i64 0) := by
  refine callsD_of_wpS Tryz.func67 rfl fun c₀ cs hu => ?_
  apply wpS_region
  simp [wpOpsS, go_sem, recoverD, hu, Tryz.ntmps67]
  refine (caught_nil w).mono ?_
  rintro e w' ⟨rfl, rfl⟩
  simp [go_sem, storeCells, hc, hz, bodyPostS, results, Tryz.results67, Result.andThen]
  cases c₀
  simp only at hu
  subst hu
  rfl

set_option maxRecDepth 100000 in
theorem finReady (p : Addr) (x : Int) (z : Int) (older : List PanicEntry) (w : World) (hc : w.cell? p = some (.int .i64 x)) (hz : w.frozen? p = false) :
    CallsD Tryz.prog 72 #[.pointer (some p)] (.panicking (failE z :: older)) w fun e u' w' => e = .returned (.tuple #[]) ∧ u' = .panicking ({ v := .iface 153 (.int .i64 z), recovered := true } :: older) ∧ w' = w.setCell p (.int .i64 z) := by
  refine callsD_of_wpS Tryz.func72 rfl fun c₀ cs hu => ?_
  apply wpS_region
  simp [wpOpsS, go_sem, recoverD, hu, failE, Tryz.ntmps72]
  refine (caught_fail z w).mono ?_
  rintro e w' ⟨rfl, rfl⟩
  simp [go_sem, storeCells, hc, hz, bodyPostS, results, Tryz.results72, Result.andThen]
set_option maxRecDepth 100000 in
theorem endReady (p : Addr) (x : Int) (w : World) (hc : w.cell? p = some (.int .i64 x)) (hz : w.frozen? p = false) :
    CallsD Tryz.prog 72 #[.pointer (some p)] .returning w fun e u' w' => e = .returned (.tuple #[]) ∧ u' = .returning ∧ w' = w.setCell p (.int .i64 0) := by
  refine callsD_of_wpS Tryz.func72 rfl fun c₀ cs hu => ?_
  apply wpS_region
  simp [wpOpsS, go_sem, recoverD, hu, Tryz.ntmps72]
  refine (caught_nil w).mono ?_
  rintro e w' ⟨rfl, rfl⟩
  simp [go_sem, storeCells, hc, hz, bodyPostS, results, Tryz.results72, Result.andThen]
  cases c₀
  simp only at hu
  subst hu
  rfl

set_option maxRecDepth 100000 in
theorem finRemove (p : Addr) (x : Int) (z : Int) (older : List PanicEntry) (w : World) (hc : w.cell? p = some (.int .i64 x)) (hz : w.frozen? p = false) :
    CallsD Tryz.prog 121 #[.pointer (some p)] (.panicking (failE z :: older)) w fun e u' w' => e = .returned (.tuple #[]) ∧ u' = .panicking ({ v := .iface 153 (.int .i64 z), recovered := true } :: older) ∧ w' = w.setCell p (.int .i64 z) := by
  refine callsD_of_wpS Tryz.func121 rfl fun c₀ cs hu => ?_
  apply wpS_region
  simp [wpOpsS, go_sem, recoverD, hu, failE, Tryz.ntmps121]
  refine (caught_fail z w).mono ?_
  rintro e w' ⟨rfl, rfl⟩
  simp [go_sem, storeCells, hc, hz, bodyPostS, results, Tryz.results121, Result.andThen]
set_option maxRecDepth 100000 in
theorem endRemove (p : Addr) (x : Int) (w : World) (hc : w.cell? p = some (.int .i64 x)) (hz : w.frozen? p = false) :
    CallsD Tryz.prog 121 #[.pointer (some p)] .returning w fun e u' w' => e = .returned (.tuple #[]) ∧ u' = .returning ∧ w' = w.setCell p (.int .i64 0) := by
  refine callsD_of_wpS Tryz.func121 rfl fun c₀ cs hu => ?_
  apply wpS_region
  simp [wpOpsS, go_sem, recoverD, hu, Tryz.ntmps121]
  refine (caught_nil w).mono ?_
  rintro e w' ⟨rfl, rfl⟩
  simp [go_sem, storeCells, hc, hz, bodyPostS, results, Tryz.results121, Result.andThen]
  cases c₀
  simp only at hu
  subst hu
  rfl

set_option maxRecDepth 100000 in
theorem finBlock (p : Addr) (x : Int) (z : Int) (older : List PanicEntry) (w : World) (hc : w.cell? p = some (.int .i64 x)) (hz : w.frozen? p = false) :
    CallsD Tryz.prog 123 #[.pointer (some p)] (.panicking (failE z :: older)) w fun e u' w' => e = .returned (.tuple #[]) ∧ u' = .panicking ({ v := .iface 153 (.int .i64 z), recovered := true } :: older) ∧ w' = w.setCell p (.int .i64 z) := by
  refine callsD_of_wpS Tryz.func123 rfl fun c₀ cs hu => ?_
  apply wpS_region
  simp [wpOpsS, go_sem, recoverD, hu, failE, Tryz.ntmps123]
  refine (caught_fail z w).mono ?_
  rintro e w' ⟨rfl, rfl⟩
  simp [go_sem, storeCells, hc, hz, bodyPostS, results, Tryz.results123, Result.andThen]
set_option maxRecDepth 100000 in
theorem endBlock (p : Addr) (x : Int) (w : World) (hc : w.cell? p = some (.int .i64 x)) (hz : w.frozen? p = false) :
    CallsD Tryz.prog 123 #[.pointer (some p)] .returning w fun e u' w' => e = .returned (.tuple #[]) ∧ u' = .returning ∧ w' = w.setCell p (.int .i64 0) := by
  refine callsD_of_wpS Tryz.func123 rfl fun c₀ cs hu => ?_
  apply wpS_region
  simp [wpOpsS, go_sem, recoverD, hu, Tryz.ntmps123]
  refine (caught_nil w).mono ?_
  rintro e w' ⟨rfl, rfl⟩
  simp [go_sem, storeCells, hc, hz, bodyPostS, results, Tryz.results123, Result.andThen]
  cases c₀
  simp only at hu
  subst hu
  rfl

set_option maxRecDepth 100000 in
theorem finYield (p : Addr) (x : Int) (z : Int) (older : List PanicEntry) (w : World) (hc : w.cell? p = some (.int .i64 x)) (hz : w.frozen? p = false) :
    CallsD Tryz.prog 124 #[.pointer (some p)] (.panicking (failE z :: older)) w fun e u' w' => e = .returned (.tuple #[]) ∧ u' = .panicking ({ v := .iface 153 (.int .i64 z), recovered := true } :: older) ∧ w' = w.setCell p (.int .i64 z) := by
  refine callsD_of_wpS Tryz.func124 rfl fun c₀ cs hu => ?_
  apply wpS_region
  simp [wpOpsS, go_sem, recoverD, hu, failE, Tryz.ntmps124]
  refine (caught_fail z w).mono ?_
  rintro e w' ⟨rfl, rfl⟩
  simp [go_sem, storeCells, hc, hz, bodyPostS, results, Tryz.results124, Result.andThen]
set_option maxRecDepth 100000 in
theorem endYield (p : Addr) (x : Int) (w : World) (hc : w.cell? p = some (.int .i64 x)) (hz : w.frozen? p = false) :
    CallsD Tryz.prog 124 #[.pointer (some p)] .returning w fun e u' w' => e = .returned (.tuple #[]) ∧ u' = .returning ∧ w' = w.setCell p (.int .i64 0) := by
  refine callsD_of_wpS Tryz.func124 rfl fun c₀ cs hu => ?_
  apply wpS_region
  simp [wpOpsS, go_sem, recoverD, hu, Tryz.ntmps124]
  refine (caught_nil w).mono ?_
  rintro e w' ⟨rfl, rfl⟩
  simp [go_sem, storeCells, hc, hz, bodyPostS, results, Tryz.results124, Result.andThen]
  cases c₀
  simp only at hu
  subst hu
  rfl

set_option maxRecDepth 100000 in
theorem finSetPriority (p : Addr) (x : Int) (z : Int) (older : List PanicEntry) (w : World) (hc : w.cell? p = some (.int .i64 x)) (hz : w.frozen? p = false) :
    CallsD Tryz.prog 126 #[.pointer (some p)] (.panicking (failE z :: older)) w fun e u' w' => e = .returned (.tuple #[]) ∧ u' = .panicking ({ v := .iface 153 (.int .i64 z), recovered := true } :: older) ∧ w' = w.setCell p (.int .i64 z) := by
  refine callsD_of_wpS Tryz.func126 rfl fun c₀ cs hu => ?_
  apply wpS_region
  simp [wpOpsS, go_sem, recoverD, hu, failE, Tryz.ntmps126]
  refine (caught_fail z w).mono ?_
  rintro e w' ⟨rfl, rfl⟩
  simp [go_sem, storeCells, hc, hz, bodyPostS, results, Tryz.results126, Result.andThen]
set_option maxRecDepth 100000 in
theorem endSetPriority (p : Addr) (x : Int) (w : World) (hc : w.cell? p = some (.int .i64 x)) (hz : w.frozen? p = false) :
    CallsD Tryz.prog 126 #[.pointer (some p)] .returning w fun e u' w' => e = .returned (.tuple #[]) ∧ u' = .returning ∧ w' = w.setCell p (.int .i64 0) := by
  refine callsD_of_wpS Tryz.func126 rfl fun c₀ cs hu => ?_
  apply wpS_region
  simp [wpOpsS, go_sem, recoverD, hu, Tryz.ntmps126]
  refine (caught_nil w).mono ?_
  rintro e w' ⟨rfl, rfl⟩
  simp [go_sem, storeCells, hc, hz, bodyPostS, results, Tryz.results126, Result.andThen]
  cases c₀
  simp only at hu
  subst hu
  rfl

set_option maxRecDepth 100000 in
theorem finSetParams (p : Addr) (x : Int) (z : Int) (older : List PanicEntry) (w : World) (hc : w.cell? p = some (.int .i64 x)) (hz : w.frozen? p = false) :
    CallsD Tryz.prog 128 #[.pointer (some p)] (.panicking (failE z :: older)) w fun e u' w' => e = .returned (.tuple #[]) ∧ u' = .panicking ({ v := .iface 153 (.int .i64 z), recovered := true } :: older) ∧ w' = w.setCell p (.int .i64 z) := by
  refine callsD_of_wpS Tryz.func128 rfl fun c₀ cs hu => ?_
  apply wpS_region
  simp [wpOpsS, go_sem, recoverD, hu, failE, Tryz.ntmps128]
  refine (caught_fail z w).mono ?_
  rintro e w' ⟨rfl, rfl⟩
  simp [go_sem, storeCells, hc, hz, bodyPostS, results, Tryz.results128, Result.andThen]
set_option maxRecDepth 100000 in
theorem endSetParams (p : Addr) (x : Int) (w : World) (hc : w.cell? p = some (.int .i64 x)) (hz : w.frozen? p = false) :
    CallsD Tryz.prog 128 #[.pointer (some p)] .returning w fun e u' w' => e = .returned (.tuple #[]) ∧ u' = .returning ∧ w' = w.setCell p (.int .i64 0) := by
  refine callsD_of_wpS Tryz.func128 rfl fun c₀ cs hu => ?_
  apply wpS_region
  simp [wpOpsS, go_sem, recoverD, hu, Tryz.ntmps128]
  refine (caught_nil w).mono ?_
  rintro e w' ⟨rfl, rfl⟩
  simp [go_sem, storeCells, hc, hz, bodyPostS, results, Tryz.results128, Result.andThen]
  cases c₀
  simp only at hu
  subst hu
  rfl
end Go.Proofs.YtjaaljcdaamcjaaGreat
