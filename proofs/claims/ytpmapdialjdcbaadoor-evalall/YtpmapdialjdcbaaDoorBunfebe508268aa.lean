/-
  Helpers: EvY.
-/
import Derived.Test.YtpmapdialjdcbaaDoorBunda7240e9c430
namespace Go.Proofs.YtpmapdialjdcbaaDoor
open Go.RowKit

set_option maxRecDepth 4000 in
theorem kept_any (g : Nat) (x y : Int) (en : En) (older : List PanicEntry) (w : World) (T : TypeId) (hg : w.heap[g]? = some (.cells #[.int .i64 x, .int .i64 y] T (0, 0))) :
    CallsD Tryd.prog 50 #[.pointer (some ⟨g, 0, none⟩)] (.panicking ({ v := endI en, recovered := false } :: older)) w fun e u' w' =>
      e = .returned (.tuple #[]) ∧ u' = .panicking ({ v := endI en, recovered := true } :: older) ∧ w' = ((w.setCell ⟨g, 0, none⟩ (.int .i64 en.h)).setCell ⟨g, 1, none⟩ (.int .i64 en.v)).alloc (.cells #[.int .i64 en.h, .int .i64 en.v] 100) := by
  have c0 := cell_of_row w g 0 _ _ _ hg
  have c1 := cell_of_row w g 1 _ _ _ hg
  have f0 := frozen_of_row w g 0 _ _ hg
  have f1 := frozen_of_row w g 1 _ _ hg
  have hlt := lt_of_block hg
  simp at c0 c1
  have hta : ∀ (v : Value) (xT : TypeId) (w : World), (Instr.typeAssert (.iface 100 v) xT 100 true).run Tryd.prog w = .ok (.tuple #[v, .bool true]) w := fun v xT w => by simp [Instr.typeAssert, run_underlying Tryd.underlying100, go_sem, Result.andThen]
  refine callsD_of_wpS Tryd.func50 rfl fun c₀ cs hu => ?_
  apply wpS_seq
  apply wpS_region
  simp [wpOpsS, go_sem, recoverD, hu, Tryd.ntmps50, Exit.thenS]
  refine wpS_of_wp ?_
  change Code.wp _ _ _ { tmps := #[.pointer (some ⟨g, 0, none⟩), .iface 100 (.agg #[.int .i64 en.h, .int .i64 en.v]), undef, undef, .iface 100 (.agg #[.int .i64 en.h, .int .i64 en.v]), undef, undef, undef, undef, undef, undef, undef, undef, undef], defers := [] } w
  go_wp2_with fail
  simp [bodyPostS, results, Tryd.results50]
end Go.Proofs.YtpmapdialjdcbaaDoor
