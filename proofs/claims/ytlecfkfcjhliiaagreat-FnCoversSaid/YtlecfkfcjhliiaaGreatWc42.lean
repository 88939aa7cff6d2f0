/- Texts of this claim, merged: ShlK. Conditions: as stated. -/
import Derived.Test.YtlecfkfcjhliiaaGreatWc23
import Derived.IntWalk
import Derived.Deep.Quiet
namespace Go.Proofs.YtlecfkfcjhliiaaGreat
open Go.RowKit

theorem sh_small {n : Nat} (h : n ≤ 20) : wrap64 (2 ^ n) = ((2 ^ n : Nat) : Int) := by
  have : ∀ n : Fin 21, wrap64 (2 ^ n.val) = ((2 ^ n.val : Nat) : Int) := by decide +kernel
  exact this ⟨n, by omega⟩
theorem shl_run (n : Nat) (h : n ≤ 20) : Op.shift .shl .i64 1 .i64 (n : Int) = (pure (.int .i64 ((2 ^ n : Nat) : Int)) : Sem Value) := by
  unfold Op.shift
  have h1 : ¬ (n : Int) < 0 := by omega
  have h2 : min ((n : Int)).toNat IntKind.i64.bits = n := by
    show min ((n : Int)).toNat 64 = n
    omega
  have h3 : IntKind.i64.wrap (1 * 2 ^ n) = ((2 ^ n : Nat) : Int) := by
    rw [Int.one_mul, IntWalk.i64_left]
    exact sh_small h
  simp only [if_neg h1, h2, h3]
section
variable (w : World) {ops : Array Oper} {rest : List Oper} {o : Oper} {a : Act} {Q : Exit → Act → World → Prop}
/-- '1 << n', n at most 20: the number by a name. -/
theorem wpList_shl1 (hg : o.guard = none) (x y : Operand) (t t' : TypeId) (hop : o.op = Op.binOp .shl t x y t') (n N : Nat) (hN : N = 2 ^ n) (hx : a.eval x = .int .i64 1) (hy : a.eval y = .int .i64 (n : Int)) (h : n ≤ 20)
    (hK : wpList Tryz.prog ops Q rest (a.put o.dst (.int .i64 (N : Int))) w) : wpList Tryz.prog ops Q (o :: rest) a w := by
  subst hN
  refine wpList_plain hg fun K' hK' => ?_
  unfold Oper.wp
  simp only [execOp, hop, hx, hy, binOp_shl, shl_run n h, Sem.run_pure, Sem.run_bind, Result.andThen]
  exact hK' _ _ hK
end
theorem shr_run (m n : Nat) (h : n ≤ 20) : Op.shift .shr .i64 (m : Int) .i64 (n : Int) = (pure (.int .i64 ((m / 2 ^ n : Nat) : Int)) : Sem Value) := by
  rw [shift_shr_any .i64 .i64 _ _ (by omega)]
  have h2 : min ((n : Int)).toNat IntKind.i64.bits = n := by
    show min ((n : Int)).toNat 64 = n
    omega
  rw [h2]
  have h3 : (m : Int) / 2 ^ n = ((m / 2 ^ n : Nat) : Int) := by rw [Int.natCast_ediv, Int.natCast_pow]; rfl
  rw [h3]
section
variable (w : World) {ops : Array Oper} {rest : List Oper} {o : Oper} {a : Act} {Q : Exit → Act → World → Prop}
theorem wpList_shr (hg : o.guard = none) (x y : Operand) (t t' : TypeId) (hop : o.op = Op.binOp .shr t x y t') (m n Z : Nat) (hZ : Z = m / 2 ^ n) (hx : a.eval x = .int .i64 (m : Int)) (hy : a.eval y = .int .i64 (n : Int)) (h : n ≤ 20)
    (hK : wpList Tryz.prog ops Q rest (a.put o.dst (.int .i64 (Z : Int))) w) : wpList Tryz.prog ops Q (o :: rest) a w := by
  subst hZ
  refine wpList_plain hg fun K' hK' => ?_
  unfold Oper.wp
  simp only [execOp, hop, hx, hy, binOp_shr, shr_run m n h, Sem.run_pure, Sem.run_bind, Result.andThen]
  exact hK' _ _ hK
end
end Go.Proofs.YtlecfkfcjhliiaaGreat
