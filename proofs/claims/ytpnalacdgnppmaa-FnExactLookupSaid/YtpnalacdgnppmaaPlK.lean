/-
  A place with a count, as a key of a map: alike, and a right key.
-/
import Derived.Test.YtpnalacdgnppmaaPlaceM
import Derived.Laws.StructEq
namespace Go.Proofs.Ytpnalacdgnppmaa
open Go.RowKit

/-- a place, if there is one, is of a row -/
def RowsOf (w : World) (a : Option Addr) : Prop := ∀ x, a = some x → ∃ cur e, w.heap[x.block]? = some (.cells cur e (0, 0))
theorem Try.fieldsKs : Try.prog.fieldsOf 81 = #[{ name := "first", type := 79, offset := 0, embedded := false, tag := "", pkgPath := "loop.example/g00276/impl", byteOffset := 0 }, { name := "count", type := 3, offset := 1, embedded := false, tag := "", pkgPath := "loop.example/g00276/impl", byteOffset := 8 }] := by kernel_rfl
theorem Try.stoodKs : Try.prog.stoodInHeld 81 = false := by kernel_rfl
theorem Try.underKs : Try.prog.underlying 81 = some (.struct (Try.prog.fieldsOf 81)) := by kernel_rfl
theorem run_partP {w : World} {xs : Array Value} {v : Value} (h : xs[0]? = some v) : (part 79 xs 0).run Try.prog w = .ok v w := by
  have hi : (isAgg 79).run Try.prog w = .ok false w := by kernel_rfl
  simp [part, hi, h]
theorem run_partI {w : World} {xs : Array Value} {v : Value} (h : xs[1]? = some v) : (part 3 xs 1).run Try.prog w = .ok v w := by
  have hi : (isAgg 3).run Try.prog w = .ok false w := by kernel_rfl
  simp [part, hi, h]
theorem run_eq_ptr (d : Nat) {w : World} {a b : Option Addr} (ha : RowsOf w a) (hb : RowsOf w b) : (Op.equalIn (d + 1) 79 (.pointer a) (.pointer b)).run Try.prog w = .ok (decide (a = b)) w := by
  obtain ⟨j, hj, _, hz1, _⟩ := info_parts Try.infoType
  have hp : Try.prog.underlying 79 = some (.pointer 27) := Try.underlying79
  cases a with
  | none => cases b <;> simp [Op.equalIn, run_underlying hp]
  | some x =>
    cases b with
    | none => simp [Op.equalIn, run_underlying hp]
    | some y =>
      by_cases c : x = y
      · subst c
        simp [Op.equalIn, run_underlying hp, typeInfo, sizeOf, hj, run_sameAddr_same]
      · obtain ⟨ca, ta, h1⟩ := ha x rfl
        obtain ⟨cb, tb, h2⟩ := hb y rfl
        rw [run_equalIn_place d (P := Try.prog) (w := w) hp hj (by rw [hz1]; decide) c h1 h2]
        simp [c]
theorem run_eq_int (d : Nat) {w : World} {m k : Int} : (Op.equalIn (d + 1) 3 (.int .i64 m) (.int .i64 k)).run Try.prog w = .ok (decide (m = k)) w := by
  simp [Op.equalIn, run_underlying Try.underlying3]
  by_cases c : m = k <;> simp [c]
theorem run_equal_ks (d : Nat) {w : World} {a b : Option Addr} {m k : Int} (ha : RowsOf w a) (hb : RowsOf w b) : (Op.equalIn (d + 1 + 1) 81 (.agg #[.pointer a, .int .i64 m]) (.agg #[.pointer b, .int .i64 k])).run Try.prog w = .ok (decide (a = b ∧ m = k)) w := by
  rw [run_equalIn_struct (P := Try.prog) w (d + 1) 81 _ _ Try.underKs Try.stoodKs, Try.fieldsKs]
  have p1 := run_partP (w := w) (xs := #[.pointer a, .int .i64 m]) (v := .pointer a) rfl
  have p2 := run_partP (w := w) (xs := #[.pointer b, .int .i64 k]) (v := .pointer b) rfl
  have q1 := run_partI (w := w) (xs := #[.pointer a, .int .i64 m]) (v := .int .i64 m) rfl
  have q2 := run_partI (w := w) (xs := #[.pointer b, .int .i64 k]) (v := .int .i64 k) rfl
  have e1 := run_eq_ptr d (w := w) ha hb
  have e2 := run_eq_int d (w := w) (m := m) (k := k)
  by_cases c : a = b
  · rw [decide_eq_true c] at e1
    by_cases c2 : m = k
    · rw [decide_eq_true c2] at e2
      rw [decide_eq_true ⟨c, c2⟩]
      simp [Op.eqFields, p1, p2, q1, q2, e1, e2]
    · rw [decide_eq_false c2] at e2
      rw [decide_eq_false (fun h => c2 h.2)]
      simp [Op.eqFields, p1, p2, q1, q2, e1, e2]
  · rw [decide_eq_false c] at e1
    rw [decide_eq_false (fun h => c h.1)]
    simp [Op.eqFields, p1, p2, e1]
theorem run_checkKeyI (n : Nat) {w : World} {m : Int} (e : Bool) : (Instr.checkKey e (n + 1) 3 (.int .i64 m)).run Try.prog w = .ok () w := by simp [Instr.checkKey, run_underlying Try.underlying3]
theorem run_checkKeyP (n : Nat) {w : World} {a : Option Addr} (e : Bool) : (Instr.checkKey e (n + 1) 79 (.pointer a)).run Try.prog w = .ok () w := by simp [Instr.checkKey, run_underlying Try.underlying79]
theorem run_checkKey_ks (n : Nat) {w : World} {a : Option Addr} {m : Int} (e : Bool) : (Instr.checkKey e (n + 1 + 1) 81 (.agg #[.pointer a, .int .i64 m])).run Try.prog w = .ok () w := by
  have p1 := run_partP (w := w) (xs := #[.pointer a, .int .i64 m]) (v := .pointer a) rfl
  have p2 := run_partI (w := w) (xs := #[.pointer a, .int .i64 m]) (v := .int .i64 m) rfl
  rw [Instr.checkKey.eq_2]
  simp only [Sem.run_bind, run_underlying Try.underKs, Result.andThen_ok]
  rw [Try.fieldsKs]
  simp [p1, p2, run_checkKeyP n, run_checkKeyI n, Result.andThen]

end Go.Proofs.Ytpnalacdgnppmaa
