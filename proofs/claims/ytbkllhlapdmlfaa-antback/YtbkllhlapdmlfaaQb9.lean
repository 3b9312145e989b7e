/-
  What the last text of this claim leans on, part 9: Gr2.
-/
import Derived.Test.YtbkllhlapdmlfaaQb8
import Derived.ChangeKeysEq
namespace Go.Proofs.Ytbkllhlapdmlfaa
open Go.RowKit
set_option linter.unusedVariables false

theorem eqItems_ints {P : Program} (w : World) (d : Nat) {e : TypeId} {k : IntKind} (he : P.underlying e = some (.int k)) (xs ys : Array Value) (f g : Nat → Int) :
    ∀ is : List Nat, (∀ i ∈ is, xs[i]? = some (.int k (f i)) ∧ ys[i]? = some (.int k (g i))) → (Op.eqItems (d + 1) e 1 xs ys is).run P w = .ok (is.all fun i => f i == g i) w
  | [], _ => by simp [Op.eqItems]
  | i :: is, h => by
    have h1 := h i (by simp)
    have px : (part e xs (i * 1)).run P w = .ok (.int k (f i)) w := by rw [Nat.mul_one]; simp [part, isAgg, run_underlying he, h1.1]
    have py : (part e ys (i * 1)).run P w = .ok (.int k (g i)) w := by rw [Nat.mul_one]; simp [part, isAgg, run_underlying he, h1.2]
    have ih := eqItems_ints w d he xs ys f g is (fun j hj => h j (by simp [hj]))
    simp only [Op.eqItems, Sem.run_bind, px, py, Result.andThen_ok, run_equalIn_int w d e k k _ _ he, List.all_cons]
    cases hb : (f i == g i)
    · simp
    · simpa using ih
theorem equal_ints {P : Program} (w : World) (d : Nat) {t e : TypeId} {n : Nat} {k : IntKind} {i : TypeInfo} (hu : P.underlying t = some (.array n e)) (hi : P.info? e = some i) (hc : P.cellsOf e = 1) (he : P.underlying e = some (.int k)) (xs ys : Array Value) (f g : Nat → Int)
    (h : ∀ j, j < n → xs[j]? = some (.int k (f j)) ∧ ys[j]? = some (.int k (g j))) : (Op.equalIn (d + 2) t (.agg xs) (.agg ys)).run P w = .ok ((List.range n).all fun j => f j == g j) w := by
  rw [run_equalIn_array w (d + 1) xs ys hu hi, hc]
  exact eqItems_ints w d he xs ys f g _ (fun j hj => h j (List.mem_range.1 hj))
theorem eqItems_rows {P : Program} (w : World) (d : Nat) {e e2 : TypeId} {m : Nat} {k : IntKind} {i i2 : TypeInfo} (hu : P.underlying e = some (.array m e2)) (hi : P.info? e2 = some i2) (hs : P.info? e = some i) (hsz : i.size = m) (hc : P.cellsOf e2 = 1) (he : P.underlying e2 = some (.int k)) (xs ys : Array Value) (f g : Nat → Int) :
    ∀ is : List Nat, (∀ y ∈ is, ∀ j, j < m → xs[y * m + j]? = some (.int k (f (y * m + j))) ∧ ys[y * m + j]? = some (.int k (g (y * m + j)))) → (Op.eqItems (d + 2) e m xs ys is).run P w = .ok (is.all fun y => (List.range m).all fun j => f (y * m + j) == g (y * m + j)) w
  | [], _ => by simp [Op.eqItems]
  | y :: is, h => by
    have h1 := h y (by simp)
    have px : (part e xs (y * m)).run P w = .ok (.agg (xs.extract (y * m) (y * m + m))) w := by simp [part, isAgg, run_underlying hu, sizeOf, typeInfo, hs, hsz]
    have py : (part e ys (y * m)).run P w = .ok (.agg (ys.extract (y * m) (y * m + m))) w := by simp [part, isAgg, run_underlying hu, sizeOf, typeInfo, hs, hsz]
    have get : ∀ (zs : Array Value) (r : Nat → Int), (∀ j, j < m → zs[y * m + j]? = some (.int k (r (y * m + j)))) → ∀ j, j < m → (zs.extract (y * m) (y * m + m))[j]? = some (.int k (r (y * m + j))) := fun zs r hz j hj => by
      have hl : y * m + j < zs.size := (Array.getElem?_eq_some_iff.1 (hz j hj)).1
      rw [Array.getElem?_extract]
      have : j < min (y * m + m) zs.size - y * m := by omega
      rw [if_pos this]
      exact hz j hj
    have eq := equal_ints w d hu hi hc he (xs.extract (y * m) (y * m + m)) (ys.extract (y * m) (y * m + m)) (fun j => f (y * m + j)) (fun j => g (y * m + j)) (fun j hj => ⟨get xs f (fun j hj => (h1 j hj).1) j hj, get ys g (fun j hj => (h1 j hj).2) j hj⟩)
    have ih := eqItems_rows w d hu hi hs hsz hc he xs ys f g is (fun j hj => h j (by simp [hj]))
    simp only [Op.eqItems, Sem.run_bind, px, py, Result.andThen_ok, eq, List.all_cons]
    cases hb : ((List.range m).all fun j => f (y * m + j) == g (y * m + j))
    · simp
    · simpa using ih
def tzN (a : Nat) : Nat := if a = 0 then 64 else Lib.ctz 64 a
theorem bitLen_le64 {a : Nat} (ha : a < 18446744073709551616) : Lib.bitLen a ≤ 64 := by
  rcases Nat.eq_zero_or_pos a with z | z
  · subst z; decide
  · exact (bitLen_top 64 a z ha (by omega)).2.1
theorem tzN_le {a : Nat} (ha : a < 18446744073709551616) : tzN a ≤ 64 := by
  unfold tzN; split
  · omega
  · exact Nat.le_of_lt (ctz_le (by omega) ha)
end Go.Proofs.Ytbkllhlapdmlfaa

