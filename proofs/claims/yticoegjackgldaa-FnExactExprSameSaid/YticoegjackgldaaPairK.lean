/-
  PAIRS OF POINTERS AS KEYS OF A MAP; pointers compared.
-/
import Derived.Test.YticoegjackgldaaSeek
import Derived.Test.YticoegjackgldaaRow3
namespace Go.Proofs.Yticoegjackgldaa
set_option linter.unusedVariables false
set_option linter.unusedSimpArgs false
open Go.RowKit

def emb2 (k : Addr × Addr) : Value := .agg #[.pointer (some k.1), .pointer (some k.2)]
def ok2 (w : World) (k : Addr × Addr) : Prop := PlainAt w k.1 ∧ PlainAt w k.2

theorem infoE_ptr : ∃ j, Try.prog.info? 29 = some j ∧ j.size ≠ 0 := by
  obtain ⟨i, z, hi, -, hs, -⟩ := infoE3
  exact ⟨i, hi, by omega⟩
theorem eq_exprPtr (w : World) (x y : Addr) (hx : PlainAt w x) (hy : PlainAt w y) (d : Nat) :
    (Op.equalIn (d + 1) 70 (.pointer (some x)) (.pointer (some y))).run Try.prog w = .ok (decide (x = y)) w := by
  obtain ⟨j, hj, hs⟩ := infoE_ptr
  exact eq_ptr Try.underlying70 hj hs w x y hx hy d
/-- 'p != q' -/
theorem neq_exprPtr (w : World) (x y : Addr) (hx : PlainAt w x) (hy : PlainAt w y) :
    (binOp .neq 70 (.pointer (some x)) (.pointer (some y))).run Try.prog w = .ok (.bool (!decide (x = y))) w := by
  simp only [binOp]
  simp [Op.equal, Op.maxDepth, eq_exprPtr w x y hx hy 9999]

theorem eq_pair (w : World) (x y : Addr × Addr) (hx : ok2 w x) (hy : ok2 w y) (d : Nat) :
    (Op.equalIn (d + 2) 72 (emb2 x) (emb2 y)).run Try.prog w = .ok (decide (x = y)) w := by
  unfold emb2
  have hf : Try.prog.fieldsOf 72 = #[{ name := "a", type := 70, offset := 0, embedded := false, tag := "", pkgPath := "loop.example/graphreducer/impl", byteOffset := 0 }, { name := "b", type := 70, offset := 1, embedded := false, tag := "", pkgPath := "loop.example/graphreducer/impl", byteOffset := 8 }] := by
    unfold Program.fieldsOf
    rw [Try.underlying72]
  rw [run_equalIn_struct w _ _ _ _ (by rw [hf]; exact Try.underlying72) (by kernel_rfl), hf]
  have p0 : ∀ a b : Value, (part 70 #[a, b] 0).run Try.prog w = .ok a w := fun a b => by kernel_rfl
  have p1 : ∀ a b : Value, (part 70 #[a, b] 1).run Try.prog w = .ok b w := fun a b => by kernel_rfl
  simp only [Op.eqFields, ne_eq, show ¬ ("a" = "_") from by decide, show ¬ ("b" = "_") from by decide, not_false_eq_true, if_true, Sem.run_bind, p0, p1, Result.andThen_ok, eq_exprPtr w _ _ hx.1 hy.1, eq_exprPtr w _ _ hx.2 hy.2]
  obtain ⟨x1, x2⟩ := x
  obtain ⟨y1, y2⟩ := y
  have e2 := eq_exprPtr w x2 y2 hx.2 hy.2 d
  by_cases h1 : x1 = y1
  · by_cases h2 : x2 = y2
    · subst h1; subst h2; simp [p1, e2, Result.andThen]
    · simp [h1, h2, p1, e2, Result.andThen]
  · simp [h1]

theorem pairK : PKey Try.prog 72 emb2 ok2 where
  check w e x := by cases e <;> kernel_rfl
  under := ⟨_, Try.underlying72, fun x y => by simp [emb2, Instr.sameNow]⟩
  eq w x y hx hy := by
    unfold Op.equal Op.maxDepth
    exact eq_pair w x y hx hy 9998
  stays x := by simp [emb2, Instr.sameBits]
theorem zeroBl (w : World) : (zeroValue 4).run Try.prog w = .ok (.bool false) w := by kernel_rfl
theorem infoPair : ∃ i z, Try.prog.info? 72 = some i ∧ i.zero = some z ∧ i.size = 2 ∧ i.bytes = 16 ∧ z.cells.size = 2 := by
  have h : (Try.prog.info? 72).map (fun i => (i.zero, i.size, i.bytes)) = some (some (.agg #[.pointer none, .pointer none]), 2, 16) := by kernel_rfl
  obtain ⟨i, hi, hzz⟩ := Option.map_eq_some_iff.1 h
  simp only [Prod.mk.injEq] at hzz
  obtain ⟨hz, hs, hb⟩ := hzz
  exact ⟨i, _, hi, hz, hs, hb, rfl⟩
end Go.Proofs.Yticoegjackgldaa
