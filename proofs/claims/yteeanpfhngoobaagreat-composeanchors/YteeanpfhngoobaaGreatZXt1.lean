/- The document's small functions, in the run's memory. -/
import Derived.Test.YteeanpfhngoobaaGreatZXsm
import Derived.Test.YteeanpfhngoobaaGreatProg
import Derived.KernelRfl
set_option linter.all false
set_option maxRecDepth 100000
namespace Go.Proofs.YteeanpfhngoobaaGreat.Xk
open Go.RowKit

theorem rcut_r (n most : Int) (h : HP) : CallR Tryz.prog 23 [.int .i64 n, .int .i64 most] h (fun v h' => v = .int .i64 (if n < 0 then 0 else if most < n then most else n) ∧ h' = h) := by
  refine CallR.of_body Tryz.func23 (by kernel_rfl) rfl ?_
  show CodeR _ _ [.int .i64 n, .int .i64 most, undef, undef, undef, undef, undef, undef, undef, undef, undef, undef] h _
  refine CodeR.seq (CodeR.region ?_)
  simp [OpR, xwant, lightK, lop, evl, flat, flat0, putT, thenR, List.range, List.range.loop]
  refine CodeR.seq (CodeR.seq (CodeR.region ?_))
  simp [OpR, xwant, lightK, lop_lss, lop, evl, flat, flat0, putT, thenR, List.range, List.range.loop]
  by_cases h0 : n < 0
  · refine CodeR.cond (b := true) (by simp [evl, h0]) ?_
    simp only [if_true]
    refine CodeR.seq (CodeR.region ?_)
    simp [OpR, xwant, lightK, lop, evl, flat, flat0, putT, thenR, List.range, List.range.loop]
    refine CodeR.ret ?_
    simp [xres, thenR, h0]
  · refine CodeR.cond (b := false) (by simp [evl, h0]) ?_
    simp only [Bool.false_eq_true, if_false]
    refine CodeR.skip ?_
    simp only [thenR]
    refine CodeR.seq (CodeR.seq (CodeR.region ?_))
    simp [OpR, xwant, lightK, lop_gtr, lop, evl, flat, flat0, putT, thenR, List.range, List.range.loop]
    by_cases h1 : most < n
    · refine CodeR.cond (b := true) (by simp [evl, h1]) ?_
      simp only [if_true]
      refine CodeR.seq (CodeR.region ?_)
      simp [OpR, xwant, lightK, lop, evl, flat, flat0, putT, thenR, List.range, List.range.loop]
      refine CodeR.ret ?_
      simp [xres, thenR, h0, h1]
    · refine CodeR.cond (b := false) (by simp [evl, h1]) ?_
      simp only [Bool.false_eq_true, if_false]
      refine CodeR.skip ?_
      simp only [thenR]
      refine CodeR.seq (CodeR.region ?_)
      simp [OpR, xwant, lightK, lop, evl, flat, flat0, putT, thenR, List.range, List.range.loop]
      refine CodeR.ret ?_
      simp [xres, thenR, h0, h1]
end Go.Proofs.YteeanpfhngoobaaGreat.Xk
