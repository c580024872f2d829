/- StoreQuota's last region: thirty operations in an open order, some of which make memory. -/
import Derived.Test.YtbobdbdknapdcaaSoKit
import Derived.Test.YtbobdbdknapdcaaGrd
import Derived.Test.YtbobdbdknapdcaaG1
import Derived.IntWalk
namespace Go.Proofs.Ytbobdbdknapdcaa
open Go.RowKit
set_option linter.unusedVariables false

/-- a region of a code, by its number -/
def regOf (n : Nat) : Code → Option Code
  | .region id ops d => if id = n then some (.region id ops d) else none
  | .seq a b => (regOf n a).or (regOf n b)
  | .cond _ a b => (regOf n a).or (regOf n b)
  | .block _ a => regOf n a
  | .loop a => regOf n a
  | .rangeFunc _ _ a b => (regOf n a).or (regOf n b)
  | .scope a => regOf n a
  | _ => none
def qoF (nc j rm P B : Nat) (t0 t2 t3 t5 t7 t9 t10 t11 t15 t16 t17 t18 t19 t20 t21 t22 t23 t24 t25 t26 t27 t28 t29 t30 t31 t32 t33 t34 t35 t36 t37 t38 t39 t40 t41 t42 t43 t44 t45 t46 t47 t48 t49 t50 t51 t52 t53 t54 t55 t56 t57 t58 t59 t60 t61 t62 t63 t64 t65 t66 t67 t68 t69 t70 t71 t72 t73 t74 t75 t76 t77 t78 : Value) (u : Nat → Value) : Array Value := #[t0, .int .u8 (nc : Int), t2, t3, u 29, t5, .pointer (some ⟨P, 0, none⟩), t7, .int .i64 (j : Int), t9, t10, t11, .int .i64 (rm : Int), .pointer (some ⟨B, 0, none⟩), .int .i64 0, t15, t16, t17, t18, t19, t20, t21, t22, t23, t24, t25, t26, t27, t28, t29, t30, t31, t32, t33, t34, t35, t36, t37, t38, t39, t40, t41, t42, t43, t44, t45, t46, t47, t48, t49, t50, t51, t52, t53, t54, t55, t56, t57, t58, t59, t60, t61, t62, t63, t64, t65, t66, t67, t68, t69, t70, t71, t72, t73, t74, t75, t76, t77, t78, u 0, u 1, u 2, u 3, u 4, u 5, u 6, u 7, u 8, u 9, u 10, u 11, u 12, u 13, u 14, u 15, u 16, u 17, u 18, u 19, u 20, u 21, u 22, u 23, u 24, u 25, u 26, u 27, u 28]
def qoS (nc j rm P mn x : Nat) (H : List Int) (T : ByteArray) (i : Nat) (v : Value) (W : World) : Prop :=
  match i with
  | 0 => v = .int .i64 0
  | 1 | 2 | 13 | 14 | 15 | 19 | 20 | 21 | 27 | 28 | 29 => v = .bool true
  | 3 | 12 => v = .agg (ints .u8 H).toArray
  | 4 => v = .int .u8 (nc : Int)
  | 5 => v = .int .i64 (nc : Int)
  | 6 | 25 => v = .int .i64 (j : Int)
  | 7 | 24 | 26 => v = .int .i64 (mn : Int)
  | 8 => v = .int .i64 (x : Int)
  | 9 => v = .int .u8 (x : Int)
  | 10 => ∃ b, v = .slice (some ⟨b, 0, none⟩) 1 1 ∧ Blk W b 5 (ints .u8 ([(x : Int)] ++ []))
  | 11 => v = .string T
  | 16 | 22 => v = .pointer (some ⟨P, 0, none⟩)
  | 17 | 18 => v = .int .i64 (rm : Int)
  | 23 => ∃ p c, v = .slice p mn c
  | _ => True
theorem qoS_mono (nc j rm P mn x : Nat) (H : List Int) (T : ByteArray) (i : Nat) (v : Value) (W W' : World) (h : qoS nc j rm P mn x H T i v W) (hb : Below W.heap.size W W') : qoS nc j rm P mn x H T i v W' := by
  match i with
  | 10 =>
    obtain ⟨b, h1, h2⟩ := h
    exact ⟨b, h1, h2.below hb h2.lt⟩
  | 0 => exact h
  | 1 => exact h
  | 2 => exact h
  | 3 => exact h
  | 4 => exact h
  | 5 => exact h
  | 6 => exact h
  | 7 => exact h
  | 8 => exact h
  | 9 => exact h
  | 11 => exact h
  | 12 => exact h
  | 13 => exact h
  | 14 => exact h
  | 15 => exact h
  | 16 => exact h
  | 17 => exact h
  | 18 => exact h
  | 19 => exact h
  | 20 => exact h
  | 21 => exact h
  | 22 => exact h
  | 23 => exact h
  | 24 => exact h
  | 25 => exact h
  | 26 => exact h
  | 27 => exact h
  | 28 => exact h
  | 29 => exact h
  | _ + 30 => trivial
theorem qoF_u0 (nc j rm P B : Nat) (t0 t2 t3 t5 t7 t9 t10 t11 t15 t16 t17 t18 t19 t20 t21 t22 t23 t24 t25 t26 t27 t28 t29 t30 t31 t32 t33 t34 t35 t36 t37 t38 t39 t40 t41 t42 t43 t44 t45 t46 t47 t48 t49 t50 t51 t52 t53 t54 t55 t56 t57 t58 t59 t60 t61 t62 t63 t64 t65 t66 t67 t68 t69 t70 t71 t72 t73 t74 t75 t76 t77 t78 : Value) (u : Nat → Value) (v : Value) : qoF nc j rm P B t0 t2 t3 t5 t7 t9 t10 t11 t15 t16 t17 t18 t19 t20 t21 t22 t23 t24 t25 t26 t27 t28 t29 t30 t31 t32 t33 t34 t35 t36 t37 t38 t39 t40 t41 t42 t43 t44 t45 t46 t47 t48 t49 t50 t51 t52 t53 t54 t55 t56 t57 t58 t59 t60 t61 t62 t63 t64 t65 t66 t67 t68 t69 t70 t71 t72 t73 t74 t75 t76 t77 t78 (upd u 0 v) = (qoF nc j rm P B t0 t2 t3 t5 t7 t9 t10 t11 t15 t16 t17 t18 t19 t20 t21 t22 t23 t24 t25 t26 t27 t28 t29 t30 t31 t32 t33 t34 t35 t36 t37 t38 t39 t40 t41 t42 t43 t44 t45 t46 t47 t48 t49 t50 t51 t52 t53 t54 t55 t56 t57 t58 t59 t60 t61 t62 t63 t64 t65 t66 t67 t68 t69 t70 t71 t72 t73 t74 t75 t76 t77 t78 u).setIfInBounds 79 v := rfl
theorem qoF_u1 (nc j rm P B : Nat) (t0 t2 t3 t5 t7 t9 t10 t11 t15 t16 t17 t18 t19 t20 t21 t22 t23 t24 t25 t26 t27 t28 t29 t30 t31 t32 t33 t34 t35 t36 t37 t38 t39 t40 t41 t42 t43 t44 t45 t46 t47 t48 t49 t50 t51 t52 t53 t54 t55 t56 t57 t58 t59 t60 t61 t62 t63 t64 t65 t66 t67 t68 t69 t70 t71 t72 t73 t74 t75 t76 t77 t78 : Value) (u : Nat → Value) (v : Value) : qoF nc j rm P B t0 t2 t3 t5 t7 t9 t10 t11 t15 t16 t17 t18 t19 t20 t21 t22 t23 t24 t25 t26 t27 t28 t29 t30 t31 t32 t33 t34 t35 t36 t37 t38 t39 t40 t41 t42 t43 t44 t45 t46 t47 t48 t49 t50 t51 t52 t53 t54 t55 t56 t57 t58 t59 t60 t61 t62 t63 t64 t65 t66 t67 t68 t69 t70 t71 t72 t73 t74 t75 t76 t77 t78 (upd u 1 v) = (qoF nc j rm P B t0 t2 t3 t5 t7 t9 t10 t11 t15 t16 t17 t18 t19 t20 t21 t22 t23 t24 t25 t26 t27 t28 t29 t30 t31 t32 t33 t34 t35 t36 t37 t38 t39 t40 t41 t42 t43 t44 t45 t46 t47 t48 t49 t50 t51 t52 t53 t54 t55 t56 t57 t58 t59 t60 t61 t62 t63 t64 t65 t66 t67 t68 t69 t70 t71 t72 t73 t74 t75 t76 t77 t78 u).setIfInBounds 80 v := rfl
theorem qoF_u2 (nc j rm P B : Nat) (t0 t2 t3 t5 t7 t9 t10 t11 t15 t16 t17 t18 t19 t20 t21 t22 t23 t24 t25 t26 t27 t28 t29 t30 t31 t32 t33 t34 t35 t36 t37 t38 t39 t40 t41 t42 t43 t44 t45 t46 t47 t48 t49 t50 t51 t52 t53 t54 t55 t56 t57 t58 t59 t60 t61 t62 t63 t64 t65 t66 t67 t68 t69 t70 t71 t72 t73 t74 t75 t76 t77 t78 : Value) (u : Nat → Value) (v : Value) : qoF nc j rm P B t0 t2 t3 t5 t7 t9 t10 t11 t15 t16 t17 t18 t19 t20 t21 t22 t23 t24 t25 t26 t27 t28 t29 t30 t31 t32 t33 t34 t35 t36 t37 t38 t39 t40 t41 t42 t43 t44 t45 t46 t47 t48 t49 t50 t51 t52 t53 t54 t55 t56 t57 t58 t59 t60 t61 t62 t63 t64 t65 t66 t67 t68 t69 t70 t71 t72 t73 t74 t75 t76 t77 t78 (upd u 2 v) = (qoF nc j rm P B t0 t2 t3 t5 t7 t9 t10 t11 t15 t16 t17 t18 t19 t20 t21 t22 t23 t24 t25 t26 t27 t28 t29 t30 t31 t32 t33 t34 t35 t36 t37 t38 t39 t40 t41 t42 t43 t44 t45 t46 t47 t48 t49 t50 t51 t52 t53 t54 t55 t56 t57 t58 t59 t60 t61 t62 t63 t64 t65 t66 t67 t68 t69 t70 t71 t72 t73 t74 t75 t76 t77 t78 u).setIfInBounds 81 v := rfl
theorem qoF_u3 (nc j rm P B : Nat) (t0 t2 t3 t5 t7 t9 t10 t11 t15 t16 t17 t18 t19 t20 t21 t22 t23 t24 t25 t26 t27 t28 t29 t30 t31 t32 t33 t34 t35 t36 t37 t38 t39 t40 t41 t42 t43 t44 t45 t46 t47 t48 t49 t50 t51 t52 t53 t54 t55 t56 t57 t58 t59 t60 t61 t62 t63 t64 t65 t66 t67 t68 t69 t70 t71 t72 t73 t74 t75 t76 t77 t78 : Value) (u : Nat → Value) (v : Value) : qoF nc j rm P B t0 t2 t3 t5 t7 t9 t10 t11 t15 t16 t17 t18 t19 t20 t21 t22 t23 t24 t25 t26 t27 t28 t29 t30 t31 t32 t33 t34 t35 t36 t37 t38 t39 t40 t41 t42 t43 t44 t45 t46 t47 t48 t49 t50 t51 t52 t53 t54 t55 t56 t57 t58 t59 t60 t61 t62 t63 t64 t65 t66 t67 t68 t69 t70 t71 t72 t73 t74 t75 t76 t77 t78 (upd u 3 v) = (qoF nc j rm P B t0 t2 t3 t5 t7 t9 t10 t11 t15 t16 t17 t18 t19 t20 t21 t22 t23 t24 t25 t26 t27 t28 t29 t30 t31 t32 t33 t34 t35 t36 t37 t38 t39 t40 t41 t42 t43 t44 t45 t46 t47 t48 t49 t50 t51 t52 t53 t54 t55 t56 t57 t58 t59 t60 t61 t62 t63 t64 t65 t66 t67 t68 t69 t70 t71 t72 t73 t74 t75 t76 t77 t78 u).setIfInBounds 82 v := rfl
theorem qoF_u4 (nc j rm P B : Nat) (t0 t2 t3 t5 t7 t9 t10 t11 t15 t16 t17 t18 t19 t20 t21 t22 t23 t24 t25 t26 t27 t28 t29 t30 t31 t32 t33 t34 t35 t36 t37 t38 t39 t40 t41 t42 t43 t44 t45 t46 t47 t48 t49 t50 t51 t52 t53 t54 t55 t56 t57 t58 t59 t60 t61 t62 t63 t64 t65 t66 t67 t68 t69 t70 t71 t72 t73 t74 t75 t76 t77 t78 : Value) (u : Nat → Value) (v : Value) : qoF nc j rm P B t0 t2 t3 t5 t7 t9 t10 t11 t15 t16 t17 t18 t19 t20 t21 t22 t23 t24 t25 t26 t27 t28 t29 t30 t31 t32 t33 t34 t35 t36 t37 t38 t39 t40 t41 t42 t43 t44 t45 t46 t47 t48 t49 t50 t51 t52 t53 t54 t55 t56 t57 t58 t59 t60 t61 t62 t63 t64 t65 t66 t67 t68 t69 t70 t71 t72 t73 t74 t75 t76 t77 t78 (upd u 4 v) = (qoF nc j rm P B t0 t2 t3 t5 t7 t9 t10 t11 t15 t16 t17 t18 t19 t20 t21 t22 t23 t24 t25 t26 t27 t28 t29 t30 t31 t32 t33 t34 t35 t36 t37 t38 t39 t40 t41 t42 t43 t44 t45 t46 t47 t48 t49 t50 t51 t52 t53 t54 t55 t56 t57 t58 t59 t60 t61 t62 t63 t64 t65 t66 t67 t68 t69 t70 t71 t72 t73 t74 t75 t76 t77 t78 u).setIfInBounds 83 v := rfl
theorem qoF_u5 (nc j rm P B : Nat) (t0 t2 t3 t5 t7 t9 t10 t11 t15 t16 t17 t18 t19 t20 t21 t22 t23 t24 t25 t26 t27 t28 t29 t30 t31 t32 t33 t34 t35 t36 t37 t38 t39 t40 t41 t42 t43 t44 t45 t46 t47 t48 t49 t50 t51 t52 t53 t54 t55 t56 t57 t58 t59 t60 t61 t62 t63 t64 t65 t66 t67 t68 t69 t70 t71 t72 t73 t74 t75 t76 t77 t78 : Value) (u : Nat → Value) (v : Value) : qoF nc j rm P B t0 t2 t3 t5 t7 t9 t10 t11 t15 t16 t17 t18 t19 t20 t21 t22 t23 t24 t25 t26 t27 t28 t29 t30 t31 t32 t33 t34 t35 t36 t37 t38 t39 t40 t41 t42 t43 t44 t45 t46 t47 t48 t49 t50 t51 t52 t53 t54 t55 t56 t57 t58 t59 t60 t61 t62 t63 t64 t65 t66 t67 t68 t69 t70 t71 t72 t73 t74 t75 t76 t77 t78 (upd u 5 v) = (qoF nc j rm P B t0 t2 t3 t5 t7 t9 t10 t11 t15 t16 t17 t18 t19 t20 t21 t22 t23 t24 t25 t26 t27 t28 t29 t30 t31 t32 t33 t34 t35 t36 t37 t38 t39 t40 t41 t42 t43 t44 t45 t46 t47 t48 t49 t50 t51 t52 t53 t54 t55 t56 t57 t58 t59 t60 t61 t62 t63 t64 t65 t66 t67 t68 t69 t70 t71 t72 t73 t74 t75 t76 t77 t78 u).setIfInBounds 84 v := rfl
theorem qoF_u6 (nc j rm P B : Nat) (t0 t2 t3 t5 t7 t9 t10 t11 t15 t16 t17 t18 t19 t20 t21 t22 t23 t24 t25 t26 t27 t28 t29 t30 t31 t32 t33 t34 t35 t36 t37 t38 t39 t40 t41 t42 t43 t44 t45 t46 t47 t48 t49 t50 t51 t52 t53 t54 t55 t56 t57 t58 t59 t60 t61 t62 t63 t64 t65 t66 t67 t68 t69 t70 t71 t72 t73 t74 t75 t76 t77 t78 : Value) (u : Nat → Value) (v : Value) : qoF nc j rm P B t0 t2 t3 t5 t7 t9 t10 t11 t15 t16 t17 t18 t19 t20 t21 t22 t23 t24 t25 t26 t27 t28 t29 t30 t31 t32 t33 t34 t35 t36 t37 t38 t39 t40 t41 t42 t43 t44 t45 t46 t47 t48 t49 t50 t51 t52 t53 t54 t55 t56 t57 t58 t59 t60 t61 t62 t63 t64 t65 t66 t67 t68 t69 t70 t71 t72 t73 t74 t75 t76 t77 t78 (upd u 6 v) = (qoF nc j rm P B t0 t2 t3 t5 t7 t9 t10 t11 t15 t16 t17 t18 t19 t20 t21 t22 t23 t24 t25 t26 t27 t28 t29 t30 t31 t32 t33 t34 t35 t36 t37 t38 t39 t40 t41 t42 t43 t44 t45 t46 t47 t48 t49 t50 t51 t52 t53 t54 t55 t56 t57 t58 t59 t60 t61 t62 t63 t64 t65 t66 t67 t68 t69 t70 t71 t72 t73 t74 t75 t76 t77 t78 u).setIfInBounds 85 v := rfl
theorem qoF_u7 (nc j rm P B : Nat) (t0 t2 t3 t5 t7 t9 t10 t11 t15 t16 t17 t18 t19 t20 t21 t22 t23 t24 t25 t26 t27 t28 t29 t30 t31 t32 t33 t34 t35 t36 t37 t38 t39 t40 t41 t42 t43 t44 t45 t46 t47 t48 t49 t50 t51 t52 t53 t54 t55 t56 t57 t58 t59 t60 t61 t62 t63 t64 t65 t66 t67 t68 t69 t70 t71 t72 t73 t74 t75 t76 t77 t78 : Value) (u : Nat → Value) (v : Value) : qoF nc j rm P B t0 t2 t3 t5 t7 t9 t10 t11 t15 t16 t17 t18 t19 t20 t21 t22 t23 t24 t25 t26 t27 t28 t29 t30 t31 t32 t33 t34 t35 t36 t37 t38 t39 t40 t41 t42 t43 t44 t45 t46 t47 t48 t49 t50 t51 t52 t53 t54 t55 t56 t57 t58 t59 t60 t61 t62 t63 t64 t65 t66 t67 t68 t69 t70 t71 t72 t73 t74 t75 t76 t77 t78 (upd u 7 v) = (qoF nc j rm P B t0 t2 t3 t5 t7 t9 t10 t11 t15 t16 t17 t18 t19 t20 t21 t22 t23 t24 t25 t26 t27 t28 t29 t30 t31 t32 t33 t34 t35 t36 t37 t38 t39 t40 t41 t42 t43 t44 t45 t46 t47 t48 t49 t50 t51 t52 t53 t54 t55 t56 t57 t58 t59 t60 t61 t62 t63 t64 t65 t66 t67 t68 t69 t70 t71 t72 t73 t74 t75 t76 t77 t78 u).setIfInBounds 86 v := rfl
theorem qoF_u8 (nc j rm P B : Nat) (t0 t2 t3 t5 t7 t9 t10 t11 t15 t16 t17 t18 t19 t20 t21 t22 t23 t24 t25 t26 t27 t28 t29 t30 t31 t32 t33 t34 t35 t36 t37 t38 t39 t40 t41 t42 t43 t44 t45 t46 t47 t48 t49 t50 t51 t52 t53 t54 t55 t56 t57 t58 t59 t60 t61 t62 t63 t64 t65 t66 t67 t68 t69 t70 t71 t72 t73 t74 t75 t76 t77 t78 : Value) (u : Nat → Value) (v : Value) : qoF nc j rm P B t0 t2 t3 t5 t7 t9 t10 t11 t15 t16 t17 t18 t19 t20 t21 t22 t23 t24 t25 t26 t27 t28 t29 t30 t31 t32 t33 t34 t35 t36 t37 t38 t39 t40 t41 t42 t43 t44 t45 t46 t47 t48 t49 t50 t51 t52 t53 t54 t55 t56 t57 t58 t59 t60 t61 t62 t63 t64 t65 t66 t67 t68 t69 t70 t71 t72 t73 t74 t75 t76 t77 t78 (upd u 8 v) = (qoF nc j rm P B t0 t2 t3 t5 t7 t9 t10 t11 t15 t16 t17 t18 t19 t20 t21 t22 t23 t24 t25 t26 t27 t28 t29 t30 t31 t32 t33 t34 t35 t36 t37 t38 t39 t40 t41 t42 t43 t44 t45 t46 t47 t48 t49 t50 t51 t52 t53 t54 t55 t56 t57 t58 t59 t60 t61 t62 t63 t64 t65 t66 t67 t68 t69 t70 t71 t72 t73 t74 t75 t76 t77 t78 u).setIfInBounds 87 v := rfl
theorem qoF_u9 (nc j rm P B : Nat) (t0 t2 t3 t5 t7 t9 t10 t11 t15 t16 t17 t18 t19 t20 t21 t22 t23 t24 t25 t26 t27 t28 t29 t30 t31 t32 t33 t34 t35 t36 t37 t38 t39 t40 t41 t42 t43 t44 t45 t46 t47 t48 t49 t50 t51 t52 t53 t54 t55 t56 t57 t58 t59 t60 t61 t62 t63 t64 t65 t66 t67 t68 t69 t70 t71 t72 t73 t74 t75 t76 t77 t78 : Value) (u : Nat → Value) (v : Value) : qoF nc j rm P B t0 t2 t3 t5 t7 t9 t10 t11 t15 t16 t17 t18 t19 t20 t21 t22 t23 t24 t25 t26 t27 t28 t29 t30 t31 t32 t33 t34 t35 t36 t37 t38 t39 t40 t41 t42 t43 t44 t45 t46 t47 t48 t49 t50 t51 t52 t53 t54 t55 t56 t57 t58 t59 t60 t61 t62 t63 t64 t65 t66 t67 t68 t69 t70 t71 t72 t73 t74 t75 t76 t77 t78 (upd u 9 v) = (qoF nc j rm P B t0 t2 t3 t5 t7 t9 t10 t11 t15 t16 t17 t18 t19 t20 t21 t22 t23 t24 t25 t26 t27 t28 t29 t30 t31 t32 t33 t34 t35 t36 t37 t38 t39 t40 t41 t42 t43 t44 t45 t46 t47 t48 t49 t50 t51 t52 t53 t54 t55 t56 t57 t58 t59 t60 t61 t62 t63 t64 t65 t66 t67 t68 t69 t70 t71 t72 t73 t74 t75 t76 t77 t78 u).setIfInBounds 88 v := rfl
theorem qoF_u10 (nc j rm P B : Nat) (t0 t2 t3 t5 t7 t9 t10 t11 t15 t16 t17 t18 t19 t20 t21 t22 t23 t24 t25 t26 t27 t28 t29 t30 t31 t32 t33 t34 t35 t36 t37 t38 t39 t40 t41 t42 t43 t44 t45 t46 t47 t48 t49 t50 t51 t52 t53 t54 t55 t56 t57 t58 t59 t60 t61 t62 t63 t64 t65 t66 t67 t68 t69 t70 t71 t72 t73 t74 t75 t76 t77 t78 : Value) (u : Nat → Value) (v : Value) : qoF nc j rm P B t0 t2 t3 t5 t7 t9 t10 t11 t15 t16 t17 t18 t19 t20 t21 t22 t23 t24 t25 t26 t27 t28 t29 t30 t31 t32 t33 t34 t35 t36 t37 t38 t39 t40 t41 t42 t43 t44 t45 t46 t47 t48 t49 t50 t51 t52 t53 t54 t55 t56 t57 t58 t59 t60 t61 t62 t63 t64 t65 t66 t67 t68 t69 t70 t71 t72 t73 t74 t75 t76 t77 t78 (upd u 10 v) = (qoF nc j rm P B t0 t2 t3 t5 t7 t9 t10 t11 t15 t16 t17 t18 t19 t20 t21 t22 t23 t24 t25 t26 t27 t28 t29 t30 t31 t32 t33 t34 t35 t36 t37 t38 t39 t40 t41 t42 t43 t44 t45 t46 t47 t48 t49 t50 t51 t52 t53 t54 t55 t56 t57 t58 t59 t60 t61 t62 t63 t64 t65 t66 t67 t68 t69 t70 t71 t72 t73 t74 t75 t76 t77 t78 u).setIfInBounds 89 v := rfl
theorem qoF_u11 (nc j rm P B : Nat) (t0 t2 t3 t5 t7 t9 t10 t11 t15 t16 t17 t18 t19 t20 t21 t22 t23 t24 t25 t26 t27 t28 t29 t30 t31 t32 t33 t34 t35 t36 t37 t38 t39 t40 t41 t42 t43 t44 t45 t46 t47 t48 t49 t50 t51 t52 t53 t54 t55 t56 t57 t58 t59 t60 t61 t62 t63 t64 t65 t66 t67 t68 t69 t70 t71 t72 t73 t74 t75 t76 t77 t78 : Value) (u : Nat → Value) (v : Value) : qoF nc j rm P B t0 t2 t3 t5 t7 t9 t10 t11 t15 t16 t17 t18 t19 t20 t21 t22 t23 t24 t25 t26 t27 t28 t29 t30 t31 t32 t33 t34 t35 t36 t37 t38 t39 t40 t41 t42 t43 t44 t45 t46 t47 t48 t49 t50 t51 t52 t53 t54 t55 t56 t57 t58 t59 t60 t61 t62 t63 t64 t65 t66 t67 t68 t69 t70 t71 t72 t73 t74 t75 t76 t77 t78 (upd u 11 v) = (qoF nc j rm P B t0 t2 t3 t5 t7 t9 t10 t11 t15 t16 t17 t18 t19 t20 t21 t22 t23 t24 t25 t26 t27 t28 t29 t30 t31 t32 t33 t34 t35 t36 t37 t38 t39 t40 t41 t42 t43 t44 t45 t46 t47 t48 t49 t50 t51 t52 t53 t54 t55 t56 t57 t58 t59 t60 t61 t62 t63 t64 t65 t66 t67 t68 t69 t70 t71 t72 t73 t74 t75 t76 t77 t78 u).setIfInBounds 90 v := rfl
theorem qoF_u12 (nc j rm P B : Nat) (t0 t2 t3 t5 t7 t9 t10 t11 t15 t16 t17 t18 t19 t20 t21 t22 t23 t24 t25 t26 t27 t28 t29 t30 t31 t32 t33 t34 t35 t36 t37 t38 t39 t40 t41 t42 t43 t44 t45 t46 t47 t48 t49 t50 t51 t52 t53 t54 t55 t56 t57 t58 t59 t60 t61 t62 t63 t64 t65 t66 t67 t68 t69 t70 t71 t72 t73 t74 t75 t76 t77 t78 : Value) (u : Nat → Value) (v : Value) : qoF nc j rm P B t0 t2 t3 t5 t7 t9 t10 t11 t15 t16 t17 t18 t19 t20 t21 t22 t23 t24 t25 t26 t27 t28 t29 t30 t31 t32 t33 t34 t35 t36 t37 t38 t39 t40 t41 t42 t43 t44 t45 t46 t47 t48 t49 t50 t51 t52 t53 t54 t55 t56 t57 t58 t59 t60 t61 t62 t63 t64 t65 t66 t67 t68 t69 t70 t71 t72 t73 t74 t75 t76 t77 t78 (upd u 12 v) = (qoF nc j rm P B t0 t2 t3 t5 t7 t9 t10 t11 t15 t16 t17 t18 t19 t20 t21 t22 t23 t24 t25 t26 t27 t28 t29 t30 t31 t32 t33 t34 t35 t36 t37 t38 t39 t40 t41 t42 t43 t44 t45 t46 t47 t48 t49 t50 t51 t52 t53 t54 t55 t56 t57 t58 t59 t60 t61 t62 t63 t64 t65 t66 t67 t68 t69 t70 t71 t72 t73 t74 t75 t76 t77 t78 u).setIfInBounds 91 v := rfl
theorem qoF_u13 (nc j rm P B : Nat) (t0 t2 t3 t5 t7 t9 t10 t11 t15 t16 t17 t18 t19 t20 t21 t22 t23 t24 t25 t26 t27 t28 t29 t30 t31 t32 t33 t34 t35 t36 t37 t38 t39 t40 t41 t42 t43 t44 t45 t46 t47 t48 t49 t50 t51 t52 t53 t54 t55 t56 t57 t58 t59 t60 t61 t62 t63 t64 t65 t66 t67 t68 t69 t70 t71 t72 t73 t74 t75 t76 t77 t78 : Value) (u : Nat → Value) (v : Value) : qoF nc j rm P B t0 t2 t3 t5 t7 t9 t10 t11 t15 t16 t17 t18 t19 t20 t21 t22 t23 t24 t25 t26 t27 t28 t29 t30 t31 t32 t33 t34 t35 t36 t37 t38 t39 t40 t41 t42 t43 t44 t45 t46 t47 t48 t49 t50 t51 t52 t53 t54 t55 t56 t57 t58 t59 t60 t61 t62 t63 t64 t65 t66 t67 t68 t69 t70 t71 t72 t73 t74 t75 t76 t77 t78 (upd u 13 v) = (qoF nc j rm P B t0 t2 t3 t5 t7 t9 t10 t11 t15 t16 t17 t18 t19 t20 t21 t22 t23 t24 t25 t26 t27 t28 t29 t30 t31 t32 t33 t34 t35 t36 t37 t38 t39 t40 t41 t42 t43 t44 t45 t46 t47 t48 t49 t50 t51 t52 t53 t54 t55 t56 t57 t58 t59 t60 t61 t62 t63 t64 t65 t66 t67 t68 t69 t70 t71 t72 t73 t74 t75 t76 t77 t78 u).setIfInBounds 92 v := rfl
theorem qoF_u14 (nc j rm P B : Nat) (t0 t2 t3 t5 t7 t9 t10 t11 t15 t16 t17 t18 t19 t20 t21 t22 t23 t24 t25 t26 t27 t28 t29 t30 t31 t32 t33 t34 t35 t36 t37 t38 t39 t40 t41 t42 t43 t44 t45 t46 t47 t48 t49 t50 t51 t52 t53 t54 t55 t56 t57 t58 t59 t60 t61 t62 t63 t64 t65 t66 t67 t68 t69 t70 t71 t72 t73 t74 t75 t76 t77 t78 : Value) (u : Nat → Value) (v : Value) : qoF nc j rm P B t0 t2 t3 t5 t7 t9 t10 t11 t15 t16 t17 t18 t19 t20 t21 t22 t23 t24 t25 t26 t27 t28 t29 t30 t31 t32 t33 t34 t35 t36 t37 t38 t39 t40 t41 t42 t43 t44 t45 t46 t47 t48 t49 t50 t51 t52 t53 t54 t55 t56 t57 t58 t59 t60 t61 t62 t63 t64 t65 t66 t67 t68 t69 t70 t71 t72 t73 t74 t75 t76 t77 t78 (upd u 14 v) = (qoF nc j rm P B t0 t2 t3 t5 t7 t9 t10 t11 t15 t16 t17 t18 t19 t20 t21 t22 t23 t24 t25 t26 t27 t28 t29 t30 t31 t32 t33 t34 t35 t36 t37 t38 t39 t40 t41 t42 t43 t44 t45 t46 t47 t48 t49 t50 t51 t52 t53 t54 t55 t56 t57 t58 t59 t60 t61 t62 t63 t64 t65 t66 t67 t68 t69 t70 t71 t72 t73 t74 t75 t76 t77 t78 u).setIfInBounds 93 v := rfl
theorem qoF_u15 (nc j rm P B : Nat) (t0 t2 t3 t5 t7 t9 t10 t11 t15 t16 t17 t18 t19 t20 t21 t22 t23 t24 t25 t26 t27 t28 t29 t30 t31 t32 t33 t34 t35 t36 t37 t38 t39 t40 t41 t42 t43 t44 t45 t46 t47 t48 t49 t50 t51 t52 t53 t54 t55 t56 t57 t58 t59 t60 t61 t62 t63 t64 t65 t66 t67 t68 t69 t70 t71 t72 t73 t74 t75 t76 t77 t78 : Value) (u : Nat → Value) (v : Value) : qoF nc j rm P B t0 t2 t3 t5 t7 t9 t10 t11 t15 t16 t17 t18 t19 t20 t21 t22 t23 t24 t25 t26 t27 t28 t29 t30 t31 t32 t33 t34 t35 t36 t37 t38 t39 t40 t41 t42 t43 t44 t45 t46 t47 t48 t49 t50 t51 t52 t53 t54 t55 t56 t57 t58 t59 t60 t61 t62 t63 t64 t65 t66 t67 t68 t69 t70 t71 t72 t73 t74 t75 t76 t77 t78 (upd u 15 v) = (qoF nc j rm P B t0 t2 t3 t5 t7 t9 t10 t11 t15 t16 t17 t18 t19 t20 t21 t22 t23 t24 t25 t26 t27 t28 t29 t30 t31 t32 t33 t34 t35 t36 t37 t38 t39 t40 t41 t42 t43 t44 t45 t46 t47 t48 t49 t50 t51 t52 t53 t54 t55 t56 t57 t58 t59 t60 t61 t62 t63 t64 t65 t66 t67 t68 t69 t70 t71 t72 t73 t74 t75 t76 t77 t78 u).setIfInBounds 94 v := rfl
theorem qoF_u16 (nc j rm P B : Nat) (t0 t2 t3 t5 t7 t9 t10 t11 t15 t16 t17 t18 t19 t20 t21 t22 t23 t24 t25 t26 t27 t28 t29 t30 t31 t32 t33 t34 t35 t36 t37 t38 t39 t40 t41 t42 t43 t44 t45 t46 t47 t48 t49 t50 t51 t52 t53 t54 t55 t56 t57 t58 t59 t60 t61 t62 t63 t64 t65 t66 t67 t68 t69 t70 t71 t72 t73 t74 t75 t76 t77 t78 : Value) (u : Nat → Value) (v : Value) : qoF nc j rm P B t0 t2 t3 t5 t7 t9 t10 t11 t15 t16 t17 t18 t19 t20 t21 t22 t23 t24 t25 t26 t27 t28 t29 t30 t31 t32 t33 t34 t35 t36 t37 t38 t39 t40 t41 t42 t43 t44 t45 t46 t47 t48 t49 t50 t51 t52 t53 t54 t55 t56 t57 t58 t59 t60 t61 t62 t63 t64 t65 t66 t67 t68 t69 t70 t71 t72 t73 t74 t75 t76 t77 t78 (upd u 16 v) = (qoF nc j rm P B t0 t2 t3 t5 t7 t9 t10 t11 t15 t16 t17 t18 t19 t20 t21 t22 t23 t24 t25 t26 t27 t28 t29 t30 t31 t32 t33 t34 t35 t36 t37 t38 t39 t40 t41 t42 t43 t44 t45 t46 t47 t48 t49 t50 t51 t52 t53 t54 t55 t56 t57 t58 t59 t60 t61 t62 t63 t64 t65 t66 t67 t68 t69 t70 t71 t72 t73 t74 t75 t76 t77 t78 u).setIfInBounds 95 v := rfl
theorem qoF_u17 (nc j rm P B : Nat) (t0 t2 t3 t5 t7 t9 t10 t11 t15 t16 t17 t18 t19 t20 t21 t22 t23 t24 t25 t26 t27 t28 t29 t30 t31 t32 t33 t34 t35 t36 t37 t38 t39 t40 t41 t42 t43 t44 t45 t46 t47 t48 t49 t50 t51 t52 t53 t54 t55 t56 t57 t58 t59 t60 t61 t62 t63 t64 t65 t66 t67 t68 t69 t70 t71 t72 t73 t74 t75 t76 t77 t78 : Value) (u : Nat → Value) (v : Value) : qoF nc j rm P B t0 t2 t3 t5 t7 t9 t10 t11 t15 t16 t17 t18 t19 t20 t21 t22 t23 t24 t25 t26 t27 t28 t29 t30 t31 t32 t33 t34 t35 t36 t37 t38 t39 t40 t41 t42 t43 t44 t45 t46 t47 t48 t49 t50 t51 t52 t53 t54 t55 t56 t57 t58 t59 t60 t61 t62 t63 t64 t65 t66 t67 t68 t69 t70 t71 t72 t73 t74 t75 t76 t77 t78 (upd u 17 v) = (qoF nc j rm P B t0 t2 t3 t5 t7 t9 t10 t11 t15 t16 t17 t18 t19 t20 t21 t22 t23 t24 t25 t26 t27 t28 t29 t30 t31 t32 t33 t34 t35 t36 t37 t38 t39 t40 t41 t42 t43 t44 t45 t46 t47 t48 t49 t50 t51 t52 t53 t54 t55 t56 t57 t58 t59 t60 t61 t62 t63 t64 t65 t66 t67 t68 t69 t70 t71 t72 t73 t74 t75 t76 t77 t78 u).setIfInBounds 96 v := rfl
theorem qoF_u18 (nc j rm P B : Nat) (t0 t2 t3 t5 t7 t9 t10 t11 t15 t16 t17 t18 t19 t20 t21 t22 t23 t24 t25 t26 t27 t28 t29 t30 t31 t32 t33 t34 t35 t36 t37 t38 t39 t40 t41 t42 t43 t44 t45 t46 t47 t48 t49 t50 t51 t52 t53 t54 t55 t56 t57 t58 t59 t60 t61 t62 t63 t64 t65 t66 t67 t68 t69 t70 t71 t72 t73 t74 t75 t76 t77 t78 : Value) (u : Nat → Value) (v : Value) : qoF nc j rm P B t0 t2 t3 t5 t7 t9 t10 t11 t15 t16 t17 t18 t19 t20 t21 t22 t23 t24 t25 t26 t27 t28 t29 t30 t31 t32 t33 t34 t35 t36 t37 t38 t39 t40 t41 t42 t43 t44 t45 t46 t47 t48 t49 t50 t51 t52 t53 t54 t55 t56 t57 t58 t59 t60 t61 t62 t63 t64 t65 t66 t67 t68 t69 t70 t71 t72 t73 t74 t75 t76 t77 t78 (upd u 18 v) = (qoF nc j rm P B t0 t2 t3 t5 t7 t9 t10 t11 t15 t16 t17 t18 t19 t20 t21 t22 t23 t24 t25 t26 t27 t28 t29 t30 t31 t32 t33 t34 t35 t36 t37 t38 t39 t40 t41 t42 t43 t44 t45 t46 t47 t48 t49 t50 t51 t52 t53 t54 t55 t56 t57 t58 t59 t60 t61 t62 t63 t64 t65 t66 t67 t68 t69 t70 t71 t72 t73 t74 t75 t76 t77 t78 u).setIfInBounds 97 v := rfl
theorem qoF_u19 (nc j rm P B : Nat) (t0 t2 t3 t5 t7 t9 t10 t11 t15 t16 t17 t18 t19 t20 t21 t22 t23 t24 t25 t26 t27 t28 t29 t30 t31 t32 t33 t34 t35 t36 t37 t38 t39 t40 t41 t42 t43 t44 t45 t46 t47 t48 t49 t50 t51 t52 t53 t54 t55 t56 t57 t58 t59 t60 t61 t62 t63 t64 t65 t66 t67 t68 t69 t70 t71 t72 t73 t74 t75 t76 t77 t78 : Value) (u : Nat → Value) (v : Value) : qoF nc j rm P B t0 t2 t3 t5 t7 t9 t10 t11 t15 t16 t17 t18 t19 t20 t21 t22 t23 t24 t25 t26 t27 t28 t29 t30 t31 t32 t33 t34 t35 t36 t37 t38 t39 t40 t41 t42 t43 t44 t45 t46 t47 t48 t49 t50 t51 t52 t53 t54 t55 t56 t57 t58 t59 t60 t61 t62 t63 t64 t65 t66 t67 t68 t69 t70 t71 t72 t73 t74 t75 t76 t77 t78 (upd u 19 v) = (qoF nc j rm P B t0 t2 t3 t5 t7 t9 t10 t11 t15 t16 t17 t18 t19 t20 t21 t22 t23 t24 t25 t26 t27 t28 t29 t30 t31 t32 t33 t34 t35 t36 t37 t38 t39 t40 t41 t42 t43 t44 t45 t46 t47 t48 t49 t50 t51 t52 t53 t54 t55 t56 t57 t58 t59 t60 t61 t62 t63 t64 t65 t66 t67 t68 t69 t70 t71 t72 t73 t74 t75 t76 t77 t78 u).setIfInBounds 98 v := rfl
theorem qoF_u20 (nc j rm P B : Nat) (t0 t2 t3 t5 t7 t9 t10 t11 t15 t16 t17 t18 t19 t20 t21 t22 t23 t24 t25 t26 t27 t28 t29 t30 t31 t32 t33 t34 t35 t36 t37 t38 t39 t40 t41 t42 t43 t44 t45 t46 t47 t48 t49 t50 t51 t52 t53 t54 t55 t56 t57 t58 t59 t60 t61 t62 t63 t64 t65 t66 t67 t68 t69 t70 t71 t72 t73 t74 t75 t76 t77 t78 : Value) (u : Nat → Value) (v : Value) : qoF nc j rm P B t0 t2 t3 t5 t7 t9 t10 t11 t15 t16 t17 t18 t19 t20 t21 t22 t23 t24 t25 t26 t27 t28 t29 t30 t31 t32 t33 t34 t35 t36 t37 t38 t39 t40 t41 t42 t43 t44 t45 t46 t47 t48 t49 t50 t51 t52 t53 t54 t55 t56 t57 t58 t59 t60 t61 t62 t63 t64 t65 t66 t67 t68 t69 t70 t71 t72 t73 t74 t75 t76 t77 t78 (upd u 20 v) = (qoF nc j rm P B t0 t2 t3 t5 t7 t9 t10 t11 t15 t16 t17 t18 t19 t20 t21 t22 t23 t24 t25 t26 t27 t28 t29 t30 t31 t32 t33 t34 t35 t36 t37 t38 t39 t40 t41 t42 t43 t44 t45 t46 t47 t48 t49 t50 t51 t52 t53 t54 t55 t56 t57 t58 t59 t60 t61 t62 t63 t64 t65 t66 t67 t68 t69 t70 t71 t72 t73 t74 t75 t76 t77 t78 u).setIfInBounds 99 v := rfl
theorem qoF_u21 (nc j rm P B : Nat) (t0 t2 t3 t5 t7 t9 t10 t11 t15 t16 t17 t18 t19 t20 t21 t22 t23 t24 t25 t26 t27 t28 t29 t30 t31 t32 t33 t34 t35 t36 t37 t38 t39 t40 t41 t42 t43 t44 t45 t46 t47 t48 t49 t50 t51 t52 t53 t54 t55 t56 t57 t58 t59 t60 t61 t62 t63 t64 t65 t66 t67 t68 t69 t70 t71 t72 t73 t74 t75 t76 t77 t78 : Value) (u : Nat → Value) (v : Value) : qoF nc j rm P B t0 t2 t3 t5 t7 t9 t10 t11 t15 t16 t17 t18 t19 t20 t21 t22 t23 t24 t25 t26 t27 t28 t29 t30 t31 t32 t33 t34 t35 t36 t37 t38 t39 t40 t41 t42 t43 t44 t45 t46 t47 t48 t49 t50 t51 t52 t53 t54 t55 t56 t57 t58 t59 t60 t61 t62 t63 t64 t65 t66 t67 t68 t69 t70 t71 t72 t73 t74 t75 t76 t77 t78 (upd u 21 v) = (qoF nc j rm P B t0 t2 t3 t5 t7 t9 t10 t11 t15 t16 t17 t18 t19 t20 t21 t22 t23 t24 t25 t26 t27 t28 t29 t30 t31 t32 t33 t34 t35 t36 t37 t38 t39 t40 t41 t42 t43 t44 t45 t46 t47 t48 t49 t50 t51 t52 t53 t54 t55 t56 t57 t58 t59 t60 t61 t62 t63 t64 t65 t66 t67 t68 t69 t70 t71 t72 t73 t74 t75 t76 t77 t78 u).setIfInBounds 100 v := rfl
theorem qoF_u22 (nc j rm P B : Nat) (t0 t2 t3 t5 t7 t9 t10 t11 t15 t16 t17 t18 t19 t20 t21 t22 t23 t24 t25 t26 t27 t28 t29 t30 t31 t32 t33 t34 t35 t36 t37 t38 t39 t40 t41 t42 t43 t44 t45 t46 t47 t48 t49 t50 t51 t52 t53 t54 t55 t56 t57 t58 t59 t60 t61 t62 t63 t64 t65 t66 t67 t68 t69 t70 t71 t72 t73 t74 t75 t76 t77 t78 : Value) (u : Nat → Value) (v : Value) : qoF nc j rm P B t0 t2 t3 t5 t7 t9 t10 t11 t15 t16 t17 t18 t19 t20 t21 t22 t23 t24 t25 t26 t27 t28 t29 t30 t31 t32 t33 t34 t35 t36 t37 t38 t39 t40 t41 t42 t43 t44 t45 t46 t47 t48 t49 t50 t51 t52 t53 t54 t55 t56 t57 t58 t59 t60 t61 t62 t63 t64 t65 t66 t67 t68 t69 t70 t71 t72 t73 t74 t75 t76 t77 t78 (upd u 22 v) = (qoF nc j rm P B t0 t2 t3 t5 t7 t9 t10 t11 t15 t16 t17 t18 t19 t20 t21 t22 t23 t24 t25 t26 t27 t28 t29 t30 t31 t32 t33 t34 t35 t36 t37 t38 t39 t40 t41 t42 t43 t44 t45 t46 t47 t48 t49 t50 t51 t52 t53 t54 t55 t56 t57 t58 t59 t60 t61 t62 t63 t64 t65 t66 t67 t68 t69 t70 t71 t72 t73 t74 t75 t76 t77 t78 u).setIfInBounds 101 v := rfl
theorem qoF_u23 (nc j rm P B : Nat) (t0 t2 t3 t5 t7 t9 t10 t11 t15 t16 t17 t18 t19 t20 t21 t22 t23 t24 t25 t26 t27 t28 t29 t30 t31 t32 t33 t34 t35 t36 t37 t38 t39 t40 t41 t42 t43 t44 t45 t46 t47 t48 t49 t50 t51 t52 t53 t54 t55 t56 t57 t58 t59 t60 t61 t62 t63 t64 t65 t66 t67 t68 t69 t70 t71 t72 t73 t74 t75 t76 t77 t78 : Value) (u : Nat → Value) (v : Value) : qoF nc j rm P B t0 t2 t3 t5 t7 t9 t10 t11 t15 t16 t17 t18 t19 t20 t21 t22 t23 t24 t25 t26 t27 t28 t29 t30 t31 t32 t33 t34 t35 t36 t37 t38 t39 t40 t41 t42 t43 t44 t45 t46 t47 t48 t49 t50 t51 t52 t53 t54 t55 t56 t57 t58 t59 t60 t61 t62 t63 t64 t65 t66 t67 t68 t69 t70 t71 t72 t73 t74 t75 t76 t77 t78 (upd u 23 v) = (qoF nc j rm P B t0 t2 t3 t5 t7 t9 t10 t11 t15 t16 t17 t18 t19 t20 t21 t22 t23 t24 t25 t26 t27 t28 t29 t30 t31 t32 t33 t34 t35 t36 t37 t38 t39 t40 t41 t42 t43 t44 t45 t46 t47 t48 t49 t50 t51 t52 t53 t54 t55 t56 t57 t58 t59 t60 t61 t62 t63 t64 t65 t66 t67 t68 t69 t70 t71 t72 t73 t74 t75 t76 t77 t78 u).setIfInBounds 102 v := rfl
theorem qoF_u24 (nc j rm P B : Nat) (t0 t2 t3 t5 t7 t9 t10 t11 t15 t16 t17 t18 t19 t20 t21 t22 t23 t24 t25 t26 t27 t28 t29 t30 t31 t32 t33 t34 t35 t36 t37 t38 t39 t40 t41 t42 t43 t44 t45 t46 t47 t48 t49 t50 t51 t52 t53 t54 t55 t56 t57 t58 t59 t60 t61 t62 t63 t64 t65 t66 t67 t68 t69 t70 t71 t72 t73 t74 t75 t76 t77 t78 : Value) (u : Nat → Value) (v : Value) : qoF nc j rm P B t0 t2 t3 t5 t7 t9 t10 t11 t15 t16 t17 t18 t19 t20 t21 t22 t23 t24 t25 t26 t27 t28 t29 t30 t31 t32 t33 t34 t35 t36 t37 t38 t39 t40 t41 t42 t43 t44 t45 t46 t47 t48 t49 t50 t51 t52 t53 t54 t55 t56 t57 t58 t59 t60 t61 t62 t63 t64 t65 t66 t67 t68 t69 t70 t71 t72 t73 t74 t75 t76 t77 t78 (upd u 24 v) = (qoF nc j rm P B t0 t2 t3 t5 t7 t9 t10 t11 t15 t16 t17 t18 t19 t20 t21 t22 t23 t24 t25 t26 t27 t28 t29 t30 t31 t32 t33 t34 t35 t36 t37 t38 t39 t40 t41 t42 t43 t44 t45 t46 t47 t48 t49 t50 t51 t52 t53 t54 t55 t56 t57 t58 t59 t60 t61 t62 t63 t64 t65 t66 t67 t68 t69 t70 t71 t72 t73 t74 t75 t76 t77 t78 u).setIfInBounds 103 v := rfl
theorem qoF_u25 (nc j rm P B : Nat) (t0 t2 t3 t5 t7 t9 t10 t11 t15 t16 t17 t18 t19 t20 t21 t22 t23 t24 t25 t26 t27 t28 t29 t30 t31 t32 t33 t34 t35 t36 t37 t38 t39 t40 t41 t42 t43 t44 t45 t46 t47 t48 t49 t50 t51 t52 t53 t54 t55 t56 t57 t58 t59 t60 t61 t62 t63 t64 t65 t66 t67 t68 t69 t70 t71 t72 t73 t74 t75 t76 t77 t78 : Value) (u : Nat → Value) (v : Value) : qoF nc j rm P B t0 t2 t3 t5 t7 t9 t10 t11 t15 t16 t17 t18 t19 t20 t21 t22 t23 t24 t25 t26 t27 t28 t29 t30 t31 t32 t33 t34 t35 t36 t37 t38 t39 t40 t41 t42 t43 t44 t45 t46 t47 t48 t49 t50 t51 t52 t53 t54 t55 t56 t57 t58 t59 t60 t61 t62 t63 t64 t65 t66 t67 t68 t69 t70 t71 t72 t73 t74 t75 t76 t77 t78 (upd u 25 v) = (qoF nc j rm P B t0 t2 t3 t5 t7 t9 t10 t11 t15 t16 t17 t18 t19 t20 t21 t22 t23 t24 t25 t26 t27 t28 t29 t30 t31 t32 t33 t34 t35 t36 t37 t38 t39 t40 t41 t42 t43 t44 t45 t46 t47 t48 t49 t50 t51 t52 t53 t54 t55 t56 t57 t58 t59 t60 t61 t62 t63 t64 t65 t66 t67 t68 t69 t70 t71 t72 t73 t74 t75 t76 t77 t78 u).setIfInBounds 104 v := rfl
theorem qoF_u26 (nc j rm P B : Nat) (t0 t2 t3 t5 t7 t9 t10 t11 t15 t16 t17 t18 t19 t20 t21 t22 t23 t24 t25 t26 t27 t28 t29 t30 t31 t32 t33 t34 t35 t36 t37 t38 t39 t40 t41 t42 t43 t44 t45 t46 t47 t48 t49 t50 t51 t52 t53 t54 t55 t56 t57 t58 t59 t60 t61 t62 t63 t64 t65 t66 t67 t68 t69 t70 t71 t72 t73 t74 t75 t76 t77 t78 : Value) (u : Nat → Value) (v : Value) : qoF nc j rm P B t0 t2 t3 t5 t7 t9 t10 t11 t15 t16 t17 t18 t19 t20 t21 t22 t23 t24 t25 t26 t27 t28 t29 t30 t31 t32 t33 t34 t35 t36 t37 t38 t39 t40 t41 t42 t43 t44 t45 t46 t47 t48 t49 t50 t51 t52 t53 t54 t55 t56 t57 t58 t59 t60 t61 t62 t63 t64 t65 t66 t67 t68 t69 t70 t71 t72 t73 t74 t75 t76 t77 t78 (upd u 26 v) = (qoF nc j rm P B t0 t2 t3 t5 t7 t9 t10 t11 t15 t16 t17 t18 t19 t20 t21 t22 t23 t24 t25 t26 t27 t28 t29 t30 t31 t32 t33 t34 t35 t36 t37 t38 t39 t40 t41 t42 t43 t44 t45 t46 t47 t48 t49 t50 t51 t52 t53 t54 t55 t56 t57 t58 t59 t60 t61 t62 t63 t64 t65 t66 t67 t68 t69 t70 t71 t72 t73 t74 t75 t76 t77 t78 u).setIfInBounds 105 v := rfl
theorem qoF_u27 (nc j rm P B : Nat) (t0 t2 t3 t5 t7 t9 t10 t11 t15 t16 t17 t18 t19 t20 t21 t22 t23 t24 t25 t26 t27 t28 t29 t30 t31 t32 t33 t34 t35 t36 t37 t38 t39 t40 t41 t42 t43 t44 t45 t46 t47 t48 t49 t50 t51 t52 t53 t54 t55 t56 t57 t58 t59 t60 t61 t62 t63 t64 t65 t66 t67 t68 t69 t70 t71 t72 t73 t74 t75 t76 t77 t78 : Value) (u : Nat → Value) (v : Value) : qoF nc j rm P B t0 t2 t3 t5 t7 t9 t10 t11 t15 t16 t17 t18 t19 t20 t21 t22 t23 t24 t25 t26 t27 t28 t29 t30 t31 t32 t33 t34 t35 t36 t37 t38 t39 t40 t41 t42 t43 t44 t45 t46 t47 t48 t49 t50 t51 t52 t53 t54 t55 t56 t57 t58 t59 t60 t61 t62 t63 t64 t65 t66 t67 t68 t69 t70 t71 t72 t73 t74 t75 t76 t77 t78 (upd u 27 v) = (qoF nc j rm P B t0 t2 t3 t5 t7 t9 t10 t11 t15 t16 t17 t18 t19 t20 t21 t22 t23 t24 t25 t26 t27 t28 t29 t30 t31 t32 t33 t34 t35 t36 t37 t38 t39 t40 t41 t42 t43 t44 t45 t46 t47 t48 t49 t50 t51 t52 t53 t54 t55 t56 t57 t58 t59 t60 t61 t62 t63 t64 t65 t66 t67 t68 t69 t70 t71 t72 t73 t74 t75 t76 t77 t78 u).setIfInBounds 106 v := rfl
theorem qoF_u28 (nc j rm P B : Nat) (t0 t2 t3 t5 t7 t9 t10 t11 t15 t16 t17 t18 t19 t20 t21 t22 t23 t24 t25 t26 t27 t28 t29 t30 t31 t32 t33 t34 t35 t36 t37 t38 t39 t40 t41 t42 t43 t44 t45 t46 t47 t48 t49 t50 t51 t52 t53 t54 t55 t56 t57 t58 t59 t60 t61 t62 t63 t64 t65 t66 t67 t68 t69 t70 t71 t72 t73 t74 t75 t76 t77 t78 : Value) (u : Nat → Value) (v : Value) : qoF nc j rm P B t0 t2 t3 t5 t7 t9 t10 t11 t15 t16 t17 t18 t19 t20 t21 t22 t23 t24 t25 t26 t27 t28 t29 t30 t31 t32 t33 t34 t35 t36 t37 t38 t39 t40 t41 t42 t43 t44 t45 t46 t47 t48 t49 t50 t51 t52 t53 t54 t55 t56 t57 t58 t59 t60 t61 t62 t63 t64 t65 t66 t67 t68 t69 t70 t71 t72 t73 t74 t75 t76 t77 t78 (upd u 28 v) = (qoF nc j rm P B t0 t2 t3 t5 t7 t9 t10 t11 t15 t16 t17 t18 t19 t20 t21 t22 t23 t24 t25 t26 t27 t28 t29 t30 t31 t32 t33 t34 t35 t36 t37 t38 t39 t40 t41 t42 t43 t44 t45 t46 t47 t48 t49 t50 t51 t52 t53 t54 t55 t56 t57 t58 t59 t60 t61 t62 t63 t64 t65 t66 t67 t68 t69 t70 t71 t72 t73 t74 t75 t76 t77 t78 u).setIfInBounds 107 v := rfl
theorem qoF_u29 (nc j rm P B : Nat) (t0 t2 t3 t5 t7 t9 t10 t11 t15 t16 t17 t18 t19 t20 t21 t22 t23 t24 t25 t26 t27 t28 t29 t30 t31 t32 t33 t34 t35 t36 t37 t38 t39 t40 t41 t42 t43 t44 t45 t46 t47 t48 t49 t50 t51 t52 t53 t54 t55 t56 t57 t58 t59 t60 t61 t62 t63 t64 t65 t66 t67 t68 t69 t70 t71 t72 t73 t74 t75 t76 t77 t78 : Value) (u : Nat → Value) (v : Value) : qoF nc j rm P B t0 t2 t3 t5 t7 t9 t10 t11 t15 t16 t17 t18 t19 t20 t21 t22 t23 t24 t25 t26 t27 t28 t29 t30 t31 t32 t33 t34 t35 t36 t37 t38 t39 t40 t41 t42 t43 t44 t45 t46 t47 t48 t49 t50 t51 t52 t53 t54 t55 t56 t57 t58 t59 t60 t61 t62 t63 t64 t65 t66 t67 t68 t69 t70 t71 t72 t73 t74 t75 t76 t77 t78 (upd u 29 v) = (qoF nc j rm P B t0 t2 t3 t5 t7 t9 t10 t11 t15 t16 t17 t18 t19 t20 t21 t22 t23 t24 t25 t26 t27 t28 t29 t30 t31 t32 t33 t34 t35 t36 t37 t38 t39 t40 t41 t42 t43 t44 t45 t46 t47 t48 t49 t50 t51 t52 t53 t54 t55 t56 t57 t58 t59 t60 t61 t62 t63 t64 t65 t66 t67 t68 t69 t70 t71 t72 t73 t74 t75 t76 t77 t78 u).setIfInBounds 4 v := rfl
set_option maxHeartbeats 4000000 in
set_option maxRecDepth 100000 in
theorem quo16 (nc j rm P B mn x : Nat) (H : List Int) (T : ByteArray) (t4 t0 t2 t3 t5 t7 t9 t10 t11 t15 t16 t17 t18 t19 t20 t21 t22 t23 t24 t25 t26 t27 t28 t29 t30 t31 t32 t33 t34 t35 t36 t37 t38 t39 t40 t41 t42 t43 t44 t45 t46 t47 t48 t49 t50 t51 t52 t53 t54 t55 t56 t57 t58 t59 t60 t61 t62 t63 t64 t65 t66 t67 t68 t69 t70 t71 t72 t73 t74 t75 t76 t77 t78 : Value) (v7 : World) (Q' : Exit → Act → World → Prop)
    (hnc : nc < 256) (hj : 1 ≤ j ∧ j ≤ 30) (hmn : min j 20 = mn) (hx : nc % mn = x) (hrm : rm ≤ 4096) (hT : bs [(x : Int)] = T) (hlen : (ints .u8 H).length = 32) (hE : ∀ w, (binOp .eql 30 (.agg (ints .u8 H).toArray) (.agg (ints .u8 H).toArray)).run Try.prog w = .ok (.bool true) w)
    (hB : Blk v7 B 30 (ints .u8 H))
    (hsu : ∀ W, Calls Try.prog 9 #[.string T] W fun e w' => e = .returned (.agg (ints .u8 H).toArray) ∧ Below W.heap.size W w')
    (hrm' : ∀ W, NewBut v7 W → Calls Try.prog 8 #[.pointer (some ⟨P, 0, none⟩)] W fun e w' => e = .returned (.int .i64 (rm : Int)) ∧ Below W.heap.size W w')
    (hal : ∀ W, NewBut v7 W → Calls Try.prog 10 #[.pointer (some ⟨P, 0, none⟩)] W fun e w' => ∃ p c, e = .returned (.slice p mn c) ∧ Below W.heap.size W w')
    (hend : ∀ u W, NewBut v7 W → u 29 = .bool true → Q' .normal ⟨qoF nc j rm P B t0 t2 t3 t5 t7 t9 t10 t11 t15 t16 t17 t18 t19 t20 t21 t22 t23 t24 t25 t26 t27 t28 t29 t30 t31 t32 t33 t34 t35 t36 t37 t38 t39 t40 t41 t42 t43 t44 t45 t46 t47 t48 t49 t50 t51 t52 t53 t54 t55 t56 t57 t58 t59 t60 t61 t62 t63 t64 t65 t66 t67 t68 t69 t70 t71 t72 t73 t74 t75 t76 t77 t78 u, []⟩ W) (code : Code) (hcode : ((Try.f3.body).bind (regOf 16)) = some code) :
    code.wp Try.prog Q' ⟨#[t0, .int .u8 (nc : Int), t2, t3, t4, t5, .pointer (some ⟨P, 0, none⟩), t7, .int .i64 (j : Int), t9, t10, t11, .int .i64 (rm : Int), .pointer (some ⟨B, 0, none⟩), .int .i64 0, t15, t16, t17, t18, t19, t20, t21, t22, t23, t24, t25, t26, t27, t28, t29, t30, t31, t32, t33, t34, t35, t36, t37, t38, t39, t40, t41, t42, t43, t44, t45, t46, t47, t48, t49, t50, t51, t52, t53, t54, t55, t56, t57, t58, t59, t60, t61, t62, t63, t64, t65, t66, t67, t68, t69, t70, t71, t72, t73, t74, t75, t76, t77, t78, undef, undef, undef, undef, undef, undef, undef, undef, undef, undef, undef, undef, undef, undef, undef, undef, undef, undef, undef, undef, undef, undef, undef, undef, undef, undef, undef, undef, undef], []⟩ v7 := by
  obtain rfl := Option.some.inj (hcode.symm.trans (rfl : ((Try.f3.body).bind (regOf 16)) = some _))
  have w1 : IntKind.i64.wrap (nc : Int) = (nc : Int) := IntWalk.i64_in _ (by omega)
  have hxl : x < mn := by rw [← hx]; exact Nat.mod_lt _ (by omega)
  have e3 : (nc : Int).tmod (mn : Int) = (x : Int) := by rw [Int.tmod_eq_emod_of_nonneg (by omega), ← hx]; rfl
  have e4 : IntKind.u8.wrap (x : Int) = (x : Int) := IntWalk.u8_in _ (by omega)
  have e5 : ¬ (mn : Int) = 0 := by omega
  have e5' : ((mn : Int) == 0) = false := by rw [beq_eq_false_iff_ne]; exact e5
  have hmi : (if (20 : Int) < (j : Int) then (20 : Int) else (j : Int)) = (mn : Int) := by split <;> omega
  have b1 : (j : Int) ≤ 30 := by omega
  have b2 : (1 : Int) ≤ (j : Int) := by omega
  have b3 : (mn : Int) ≤ 20 := by omega
  have b4 : (1 : Int) ≤ (mn : Int) := by omega
  have HSZ : Hid ((Try.prog.info? 30).map (·.size) = some (ints .u8 H).length) := Lib.hid (by rw [hlen]; kernel_rfl)
  have HMI := Lib.hid hmi
  have HTX := Lib.hid hT
  have HEQ := Lib.hid hE
  have K2 := Lib.hid hB
  have HSU := Lib.hid hsu
  have HRM := Lib.hid hrm'
  have HAL := Lib.hid hal
  clear hnc hj hmn hx hxl hmi hT hE hB hsu hrm' hal hcode hrm
  obtain ⟨F', hF'⟩ : ∃ F' : (Nat → Value) → Array Value, F' = qoF nc j rm P B t0 t2 t3 t5 t7 t9 t10 t11 t15 t16 t17 t18 t19 t20 t21 t22 t23 t24 t25 t26 t27 t28 t29 t30 t31 t32 t33 t34 t35 t36 t37 t38 t39 t40 t41 t42 t43 t44 t45 t46 t47 t48 t49 t50 t51 t52 t53 t54 t55 t56 t57 t58 t59 t60 t61 t62 t63 t64 t65 t66 t67 t68 t69 t70 t71 t72 t73 t74 t75 t76 t77 t78 := ⟨_, rfl⟩
  have HF := Lib.hid hF'
  clear hF'
  refine region_free mixed (by kernel_rfl) F' [] (fun i => if i = 29 then t4 else undef) (by rw [HF.out]; rfl) (NewBut v7) (show Below _ _ _ from (Below.refl _ _).drew) (qoS nc j rm P mn x H T) ?mono ?step ?end_
  case mono => exact fun i v W W' h _ _ hb => qoS_mono nc j rm P mn x H T i v W W' h hb
  case step =>
    intro u W i o ho hC hd
    have hFu : F' u = qoF nc j rm P B t0 t2 t3 t5 t7 t9 t10 t11 t15 t16 t17 t18 t19 t20 t21 t22 t23 t24 t25 t26 t27 t28 t29 t30 t31 t32 t33 t34 t35 t36 t37 t38 t39 t40 t41 t42 t43 t44 t45 t46 t47 t48 t49 t50 t51 t52 t53 t54 t55 t56 t57 t58 t59 t60 t61 t62 t63 t64 t65 t66 t67 t68 t69 t70 t71 t72 t73 t74 t75 t76 t77 t78 u := by rw [HF.out]
    have hr := Below.refl W.heap.size W
    rcases i with _ | _ | _ | _ | _ | _ | _ | _ | _ | _ | _ | _ | _ | _ | _ | _ | _ | _ | _ | _ | _ | _ | _ | _ | _ | _ | _ | _ | _ | _ | i
    all_goals try (simp only [List.getElem?_cons_zero, List.getElem?_cons_succ, Option.some.injEq] at ho; subst ho)
    · rw [hFu]; clear hFu; unfold qoF; go_wp2_with fail
      exact ⟨_, by rw [HF.out, qoF_u0]; unfold qoF; rfl, rfl, hC, hr⟩
    · have h0 : u 0 = _ := hd ⟨0, .data⟩ (by simp) rfl
      rw [hFu]; clear hFu; unfold qoF; rw [h0]; go_wp2_with fail
      exact ⟨_, by rw [HF.out, qoF_u1]; unfold qoF; rw [h0]; rfl, rfl, hC, hr⟩
    · have h1 : u 1 = _ := hd ⟨1, .data⟩ (by simp) rfl
      rw [hFu]; clear hFu; unfold qoF; rw [h1]; go_wp2_with fail
      exact ⟨_, by rw [HF.out, qoF_u2]; unfold qoF; rw [h1]; rfl, rfl, hC, hr⟩
    · have h2 : u 2 = _ := hd ⟨2, .guard⟩ (by simp) rfl
      rw [hFu]; clear hFu; unfold qoF; rw [h2]; go_wp2_with (refine wpList_load_blkW rfl 30 _ rfl B rfl (K2.out.below hC K2.out.lt) Try.underlying30 rfl HSZ.out ?_)
      exact ⟨_, by rw [HF.out, qoF_u3]; unfold qoF; rw [h2]; rfl, rfl, hC, hr⟩
    · have h2 : u 2 = _ := hd ⟨2, .guard⟩ (by simp) rfl
      rw [hFu]; clear hFu; unfold qoF; rw [h2]; go_wp2_with fail
      exact ⟨_, by rw [HF.out, qoF_u4]; unfold qoF; rw [h2]; rfl, rfl, hC, hr⟩
    · have h4 : u 4 = _ := hd ⟨4, .data⟩ (by simp) rfl
      have h2 : u 2 = _ := hd ⟨2, .guard⟩ (by simp) rfl
      rw [hFu]; clear hFu; unfold qoF; rw [h4, h2]; go_wp2_with fail
      exact ⟨_, by rw [HF.out, qoF_u5]; unfold qoF; rw [h4, h2]; rfl, rfl, hC, hr⟩
    · have h2 : u 2 = _ := hd ⟨2, .guard⟩ (by simp) rfl
      rw [hFu]; clear hFu; unfold qoF; rw [h2]; go_wp2_with fail
      exact ⟨_, by rw [HF.out, qoF_u6]; unfold qoF; rw [h2]; rfl, rfl, hC, hr⟩
    · have h6 : u 6 = _ := hd ⟨6, .data⟩ (by simp) rfl
      have h2 : u 2 = _ := hd ⟨2, .guard⟩ (by simp) rfl
      rw [hFu]; clear hFu; unfold qoF; rw [h6, h2]; go_wp2_with (refine wpList_min2G rfl _ _ 3 rfl _ _ (mn : Int) rfl rfl HMI.out ?_)
      exact ⟨_, by rw [HF.out, qoF_u7]; unfold qoF; rw [h6, h2]; rfl, rfl, hC, hr⟩
    · have h5 : u 5 = _ := hd ⟨5, .data⟩ (by simp) rfl
      have h7 : u 7 = _ := hd ⟨7, .data⟩ (by simp) rfl
      have h2 : u 2 = _ := hd ⟨2, .guard⟩ (by simp) rfl
      rw [hFu]; clear hFu; unfold qoF; rw [h5, h7, h2]; go_wp2_with fail
      exact ⟨_, by rw [HF.out, qoF_u8]; unfold qoF; rw [h5, h7, h2]; rfl, rfl, hC, hr⟩
    · have h8 : u 8 = _ := hd ⟨8, .data⟩ (by simp) rfl
      have h2 : u 2 = _ := hd ⟨2, .guard⟩ (by simp) rfl
      rw [hFu]; clear hFu; unfold qoF; rw [h8, h2]; go_wp2_with fail
      exact ⟨_, by rw [HF.out, qoF_u9]; unfold qoF; rw [h8, h2]; rfl, rfl, hC, hr⟩
    · have h9 : u 9 = _ := hd ⟨9, .data⟩ (by simp) rfl
      have h2 : u 2 = _ := hd ⟨2, .guard⟩ (by simp) rfl
      rw [hFu]; clear hFu; unfold qoF; rw [h9, h2]; go_wp2_with fail
      have hz := hC.size
      exact ⟨_, by rw [HF.out, qoF_u10]; unfold qoF; rw [h9, h2]; rfl, ⟨W.heap.size, rfl, Blk.new' W _ _ rfl⟩, Below.alloc hC hz _, hr.alloc (Nat.le_refl _) _⟩
    · obtain ⟨b, h10, q10⟩ : ∃ b, u 10 = .slice (some ⟨b, 0, none⟩) 1 1 ∧ Blk W b 5 (ints .u8 ([(x : Int)] ++ [])) := hd ⟨10, .data⟩ (by simp) rfl
      have h2 : u 2 = _ := hd ⟨2, .guard⟩ (by simp) rfl
      have qo := OwnB.ofBlk (l := [(x : Int)]) (base := b) (cap := 1) [] q10 (Nat.le_refl _) rfl (by decide)
      rw [hFu]; clear hFu; unfold qoF; rw [h10, h2]; go_wp2_with (refine wpList_string_ownG rfl 33 9 5 _ rfl b _ [(x : Int)] rfl Try.underlying33 Try.underlying5 Try.underlying9 qo ?_; rw [HTX.out])
      exact ⟨_, by rw [HF.out, qoF_u11]; unfold qoF; rw [h10, h2]; rfl, rfl, hC, hr⟩
    · have h11 : u 11 = _ := hd ⟨11, .data⟩ (by simp) rfl
      have h2 : u 2 = _ := hd ⟨2, .guard⟩ (by simp) rfl
      have hc := HSU.out W
      rw [hFu]; clear hFu; unfold qoF; rw [h11, h2]; go_wp2_with fail
      (with_reducible refine hc.mono ?_)
      rintro e w5 ⟨rfl, hb5⟩
      go_wp2_with fail
      exact ⟨_, by rw [HF.out, qoF_u12]; unfold qoF; rw [h11, h2]; rfl, rfl, Below.trans hC (hb5.mono hC.size), hb5⟩
    · have h3 : u 3 = _ := hd ⟨3, .data⟩ (by simp) rfl
      have h12 : u 12 = _ := hd ⟨12, .data⟩ (by simp) rfl
      have h2 : u 2 = _ := hd ⟨2, .guard⟩ (by simp) rfl
      have hE := HEQ.out
      rw [hFu]; clear hFu; unfold qoF; rw [h3, h12, h2]; go_wp2_with fail
      exact ⟨_, by rw [HF.out, qoF_u13]; unfold qoF; rw [h3, h12, h2]; rfl, rfl, hC, hr⟩
    · have h2 : u 2 = _ := hd ⟨2, .data⟩ (by simp) rfl
      have h13 : u 13 = _ := hd ⟨13, .data⟩ (by simp) rfl
      rw [hFu]; clear hFu; unfold qoF; rw [h2, h13]; go_wp2_with fail
      exact ⟨_, by rw [HF.out, qoF_u14]; unfold qoF; rw [h2, h13]; rfl, rfl, hC, hr⟩
    · have h14 : u 14 = _ := hd ⟨14, .data⟩ (by simp) rfl
      rw [hFu]; clear hFu; unfold qoF; rw [h14]; go_wp2_with fail
      exact ⟨_, by rw [HF.out, qoF_u15]; unfold qoF; rw [h14]; rfl, rfl, hC, hr⟩
    · have h15 : u 15 = _ := hd ⟨15, .guard⟩ (by simp) rfl
      rw [hFu]; clear hFu; unfold qoF; rw [h15]; go_wp2_with fail
      exact ⟨_, by rw [HF.out, qoF_u16]; unfold qoF; rw [h15]; rfl, rfl, hC, hr⟩
    · have h16 : u 16 = _ := hd ⟨16, .data⟩ (by simp) rfl
      have h15 : u 15 = _ := hd ⟨15, .guard⟩ (by simp) rfl
      have hc := HRM.out W hC
      rw [hFu]; clear hFu; unfold qoF; rw [h16, h15]; go_wp2_with fail
      (with_reducible refine hc.mono ?_)
      rintro e w5 ⟨rfl, hb5⟩
      go_wp2_with fail
      exact ⟨_, by rw [HF.out, qoF_u17]; unfold qoF; rw [h16, h15]; rfl, rfl, Below.trans hC (hb5.mono hC.size), hb5⟩
    · have h15 : u 15 = _ := hd ⟨15, .guard⟩ (by simp) rfl
      rw [hFu]; clear hFu; unfold qoF; rw [h15]; go_wp2_with fail
      exact ⟨_, by rw [HF.out, qoF_u18]; unfold qoF; rw [h15]; rfl, rfl, hC, hr⟩
    · have h17 : u 17 = _ := hd ⟨17, .data⟩ (by simp) rfl
      have h18 : u 18 = _ := hd ⟨18, .data⟩ (by simp) rfl
      have h15 : u 15 = _ := hd ⟨15, .guard⟩ (by simp) rfl
      rw [hFu]; clear hFu; unfold qoF; rw [h17, h18, h15]; go_wp2_with fail
      exact ⟨_, by rw [HF.out, qoF_u19]; unfold qoF; rw [h17, h18, h15]; rfl, rfl, hC, hr⟩
    · have h15 : u 15 = _ := hd ⟨15, .data⟩ (by simp) rfl
      have h19 : u 19 = _ := hd ⟨19, .data⟩ (by simp) rfl
      rw [hFu]; clear hFu; unfold qoF; rw [h15, h19]; go_wp2_with fail
      exact ⟨_, by rw [HF.out, qoF_u20]; unfold qoF; rw [h15, h19]; rfl, rfl, hC, hr⟩
    · have h20 : u 20 = _ := hd ⟨20, .data⟩ (by simp) rfl
      rw [hFu]; clear hFu; unfold qoF; rw [h20]; go_wp2_with fail
      exact ⟨_, by rw [HF.out, qoF_u21]; unfold qoF; rw [h20]; rfl, rfl, hC, hr⟩
    · have h21 : u 21 = _ := hd ⟨21, .guard⟩ (by simp) rfl
      rw [hFu]; clear hFu; unfold qoF; rw [h21]; go_wp2_with fail
      exact ⟨_, by rw [HF.out, qoF_u22]; unfold qoF; rw [h21]; rfl, rfl, hC, hr⟩
    · have h22 : u 22 = _ := hd ⟨22, .data⟩ (by simp) rfl
      have h21 : u 21 = _ := hd ⟨21, .guard⟩ (by simp) rfl
      have hc := HAL.out W hC
      rw [hFu]; clear hFu; unfold qoF; rw [h22, h21]; go_wp2_with fail
      (with_reducible refine hc.mono ?_)
      rintro e w5 ⟨p5, c5, rfl, hb5⟩
      go_wp2_with fail
      exact ⟨.slice p5 mn c5, by rw [HF.out, qoF_u23]; unfold qoF; rw [h22, h21]; rfl, ⟨p5, c5, rfl⟩, Below.trans hC (hb5.mono hC.size), hb5⟩
    · obtain ⟨p23, c23, h23⟩ : ∃ p c, u 23 = .slice p mn c := hd ⟨23, .data⟩ (by simp) rfl
      have h21 : u 21 = _ := hd ⟨21, .guard⟩ (by simp) rfl
      rw [hFu]; clear hFu; unfold qoF; rw [h23, h21]; go_wp2_with fail
      exact ⟨_, by rw [HF.out, qoF_u24]; unfold qoF; rw [h23, h21]; rfl, rfl, hC, hr⟩
    · have h21 : u 21 = _ := hd ⟨21, .guard⟩ (by simp) rfl
      rw [hFu]; clear hFu; unfold qoF; rw [h21]; go_wp2_with fail
      exact ⟨_, by rw [HF.out, qoF_u25]; unfold qoF; rw [h21]; rfl, rfl, hC, hr⟩
    · have h25 : u 25 = _ := hd ⟨25, .data⟩ (by simp) rfl
      have h21 : u 21 = _ := hd ⟨21, .guard⟩ (by simp) rfl
      rw [hFu]; clear hFu; unfold qoF; rw [h25, h21]; go_wp2_with (refine wpList_min2G rfl _ _ 3 rfl _ _ (mn : Int) rfl rfl HMI.out ?_)
      exact ⟨_, by rw [HF.out, qoF_u26]; unfold qoF; rw [h25, h21]; rfl, rfl, hC, hr⟩
    · have h24 : u 24 = _ := hd ⟨24, .data⟩ (by simp) rfl
      have h26 : u 26 = _ := hd ⟨26, .data⟩ (by simp) rfl
      have h21 : u 21 = _ := hd ⟨21, .guard⟩ (by simp) rfl
      rw [hFu]; clear hFu; unfold qoF; rw [h24, h26, h21]; go_wp2_with fail
      exact ⟨_, by rw [HF.out, qoF_u27]; unfold qoF; rw [h24, h26, h21]; rfl, rfl, hC, hr⟩
    · have h21 : u 21 = _ := hd ⟨21, .data⟩ (by simp) rfl
      have h27 : u 27 = _ := hd ⟨27, .data⟩ (by simp) rfl
      rw [hFu]; clear hFu; unfold qoF; rw [h21, h27]; go_wp2_with fail
      exact ⟨_, by rw [HF.out, qoF_u28]; unfold qoF; rw [h21, h27]; rfl, rfl, hC, hr⟩
    · have h28 : u 28 = _ := hd ⟨28, .data⟩ (by simp) rfl
      rw [hFu]; clear hFu; unfold qoF; rw [h28]; go_wp2_with fail
      exact ⟨_, by rw [HF.out, qoF_u29]; unfold qoF; rw [h28]; rfl, rfl, hC, hr⟩
    · simp at ho
  case end_ => exact fun u W hC hS => by rw [HF.out]; exact hend u W hC (hS 29 (by decide))
end Go.Proofs.Ytbobdbdknapdcaa
