/-
  Walks over the reference of package sha: the constants, a block.
-/
import Derived.Test.YtbpjklafhohlnaaDoorShaC
namespace Go.Proofs.YtbpjklafhohlnaaDoor
open Go.RowKit
set_option linter.unusedVariables false
set_option linter.unusedSimpArgs false

attribute [local go_sem] u_addm u_addw u_add3 u_add4 u_add5 u_add12 u_add13 u_xor u_and u_or u_not u_not2 u_not3 u_not4 u_shr3 u_shr10

set_option maxHeartbeats 2000000 in
set_option maxRecDepth 100000 in
theorem constants_any (W : World) :
    Calls Tryd.prog 26 #[] W fun e W' => e = .returned (.agg (kcL.map uv).toArray) ∧ Below W.heap.size W W' := by
  have hN := Blk.new (cs := (List.replicate 64 0).map uv) W 46 _ rfl
  go_enter Tryd.func26, Tryd.ntmps26
  go_wp2_with (refine st_blk rfl 46 _ _ rfl W.heap.size (kcL.map uv) rfl rfl 46 _ hN (by kernel_rfl) rfl (uvs_one _) ?_)
  try simp only [Exit.inBlock, Exit.then]
  exact ret_cell rfl _ _ _ rfl (hN.row (kcL.map uv)) 64 38 Tryd.underlying46 (by kernel_rfl) rfl ⟨rfl, below_row ((Below.refl _ _).alloc (Nat.le_refl _) _) (Nat.le_refl _) _⟩

theorem refStart_any (W : World) :
    Calls Tryd.prog 19 #[] W fun e W' => e = .returned st0.v ∧ Below W.heap.size W W' := by
  have hN := Blk.new (cs := st00.l.map uv) W 39 _ rfl
  go_enter Tryd.func19, Tryd.ntmps19
  go_wp2_with (refine st_blk rfl 39 _ _ rfl W.heap.size (st0.l.map uv) rfl rfl 39 _ hN (by kernel_rfl) rfl (uvs_one _) ?_)
  try simp only [Exit.inBlock, Exit.then]
  exact ret_cell rfl _ _ _ rfl (hN.row (st0.l.map uv)) 8 38 Tryd.underlying39 (by kernel_rfl) rfl ⟨rfl, below_row ((Below.refl _ _).alloc (Nat.le_refl _) _) (Nat.le_refl _) _⟩

theorem start_any (W : World) :
    Calls Tryd.prog 22 #[] W fun e W' => e = .returned st0.v ∧ Below W.heap.size W W' := by
  have hN := Blk.new (cs := st00.l.map uv) W 39 _ rfl
  go_enter Tryd.func22, Tryd.ntmps22
  go_wp2_with (refine st_blk rfl 39 _ _ rfl W.heap.size (st0.l.map uv) rfl rfl 39 _ hN (by kernel_rfl) rfl (uvs_one _) ?_)
  try simp only [Exit.inBlock, Exit.then]
  exact ret_cell rfl _ _ _ rfl (hN.row (st0.l.map uv)) 8 38 Tryd.underlying39 (by kernel_rfl) rfl ⟨rfl, below_row ((Below.refl _ _).alloc (Nat.le_refl _) _) (Nat.le_refl _) _⟩

end Go.Proofs.YtbpjklafhohlnaaDoor
