/-
  What the last text of this claim leans on, part 22: Wq8, LawWp0, LawWpA.
-/
import Derived.Test.YthmeapplnocfjaaDoorZp2
import Derived.Test.YthmeapplnocfjaaDoorZp21
import Derived.Laws.AppendOwn
import Derived.Deep.RegionLaw
namespace Go.Proofs.YthmeapplnocfjaaDoor
open Go.RowKit
set_option linter.unusedVariables false
set_option linter.unusedSimpArgs false
/-- An append to a row of one's own, in a region that draws. -/
theorem step_append_own {P : Program} {ops : Array Oper} {o : Oper} {a : Act} {w : World} {K : Act → World → Prop} {Q : Exit → Act → World → Prop} {E : Prop}
    (hg : o.guard = none) (s x : Operand) (t : TypeId) (hop : o.op = Op.call { callee := Callee.builtin Builtin.append, args := #[s, x], argTypes := #[t, t] })
    (base : Nat) (e : TypeId) (i : TypeInfo) (z : Value) (size bytes : Nat) (ht : P.underlying t = some (.slice e)) (hi : P.info? e = some i) (hz : i.zero = some z)
    (hsize : i.size = size) (hby : i.bytes = bytes) (hzs : z.cells.size = size) (hsz : 0 < size)
    (v : Value) (n : Nat) (xs : List Value) (hs : a.eval s = v) (hown : w.ownsRow base e size v n xs)
    (ad : Addr) (m c : Nat) (news : List Value) (hx : a.eval x = .slice (some ad) m c) (hl : news.length = m * size) (hnews : ∀ j u, news[j]? = some u → w.cell? (ad.add j) = some u) (h1 : ∀ u ∈ news, u.oneCell' = true)
    (h63 : n + m ≤ maxLen) (hbytes : (n + m) * bytes ≤ 140737488355328) (hbase : base ≤ w.heap.size)
    (h : ∀ v' w', w'.ownsRow base e size v' (n + m) (xs ++ news) → w.grownBy w' v.ownBlock → (v' = .slice none 0 0 ↔ v = .slice none 0 0 ∧ m = 0) → K (a.put o.dst v') w') :
    if Region.wanted o (yielded ops a.tmps) = true then Oper.wp P o a w K Q else E := by
  have hw : Region.wanted o (yielded ops a.tmps) = true := by simp [Region.wanted, hg]
  rw [if_pos hw]
  exact wp_append_own w s x t hop base e i z size bytes ht hi hz hsize hby hzs hsz v n xs hs hown ad m c news hx hl hnews h1 h63 hbytes hbase h
/-- One tile that fits to itself. -/
def oneT : List TlT := [⟨1, 2, 1, 2⟩]
theorem one_sol : SolW 1 (1 * 1) (okW oneT 1 1 true) (fun _ => 0) := fun i hi => by
  obtain rfl : i = 0 := by omega
  exact ⟨by omega, fun h => by simp at h, fun h => by simp at h, fun _ _ => rfl, fun _ _ => rfl⟩
theorem one_dec {V w' : World} {e : Ending} (h : WdA oneT 1 1 V e w') : (∃ a c, e = .returned (.tuple #[.agg #[.bool true, .int .i64 1, .int .i64 1, .slice a 1 c], .nilIface])) ∧ Below V.heap.size V w' := by
  have s0 : sdF oneT 1 1 = 0 := by kernel_rfl
  have no : ¬ NoRg oneT 1 1 1 := fun q => q _ one_sol
  rcases h with ⟨q, _⟩ | ⟨_, hl, _⟩ | ⟨_, s, hs, _⟩ | ⟨_, v, u, d, ht, hd, a, n, c, rfl, hA, hb⟩
  · exact absurd s0 q
  · exact absurd ((hl 1 (by omega) (by decide)).1 1 1 (by omega) (by omega) (by omega) (by omega) (Or.inl rfl)) no
  · obtain ⟨q1, q2, q3, q4, q5⟩ := hs
    have : s ≤ 1 := q2
    obtain rfl : s = 1 := by omega
    exact absurd (q4 1 1 (by omega) (by omega) (by omega) (by omega) (Or.inl rfl)) no
  · obtain ⟨s, q1, q2, q3, q4, q5, q6, q7, q8, q9, q10⟩ := ht
    have : s ≤ 1 := q2
    obtain rfl : v = 1 := by omega
    obtain rfl : u = 1 := by omega
    have hn := hA.out.len
    obtain rfl : n = 1 := by rw [hn]; simp
    exact ⟨⟨a, c, rfl⟩, hb.out⟩
/-- Where tiles are right, so are sides from 1 to 5. -/
theorem sd_zero {xs : List TlT} {W H : Nat} (h : tlF xs = 0) (h1 : 1 ≤ W) (h2 : W ≤ 5) (h3 : 1 ≤ H) (h4 : H ≤ 5) : sdF xs (W : Int) (H : Int) = 0 := by
  unfold sdF
  rw [if_pos h, if_neg (by omega)]
theorem ce_zero {n W H : Nat} {c : Nat → Nat} (hc : ∀ i, i < W * H → c i < n) : ceF n (W : Int) (H : Int) ((List.range (W * H)).map fun i => ((c i : Nat) : Int)) = 0 := by
  unfold ceF
  rw [if_pos (by simp), if_pos]
  rw [List.all_eq_true]
  intro z hz
  obtain ⟨i, hi, rfl⟩ := List.mem_map.1 hz
  have := hc i (List.mem_range.1 hi)
  simp
  omega
theorem getD_map (N : Nat) (c : Nat → Nat) {i : Nat} (hi : i < N) : (((List.range N).map fun i => ((c i : Nat) : Int)).getD i 0).toNat = c i := by
  simp [List.getD, hi]
theorem all_sol {xs : List TlT} {n W H : Nat} {ring : Bool} {c : Nat → Nat} (h : SolW n (W * H) (okW xs W H ring) c) : AllW xs W H ring ((List.range (W * H)).map fun i => ((c i : Nat) : Int)) := fun k hk =>
  okW_loc xs W H ring k c _ (fun i hi => (getD_map _ c (by omega)).symm) (h k hk).2
/-- What Fits says of cells that fit. -/
theorem fits_yes {xs : List TlT} {n W H : Nat} {ring : Bool} {c : Nat → Nat} {e : Ending} (ht : tlF xs = 0) (h1 : 1 ≤ W) (h2 : W ≤ 5) (h3 : 1 ≤ H) (h4 : H ≤ 5) (hs : SolW n (W * H) (okW xs W H ring) c) (h : FtA xs n (W : Int) (H : Int) ((List.range (W * H)).map fun i => ((c i : Nat) : Int)) ring e) : e = .returned (.tuple #[.bool true, .nilIface]) := by
  have s0 := sd_zero ht h1 h2 h3 h4
  have c0 := ce_zero (n := n) (W := W) (H := H) (fun i hi => (hs i hi).1)
  rcases h with ⟨q, _⟩ | ⟨_, q, _⟩ | ⟨_, _, b, rfl, hb⟩
  · exact absurd s0 q
  · exact absurd c0 q
  · rw [Int.toNat_natCast, Int.toNat_natCast] at hb
    rw [hb.2 (all_sol hs)]
/-- What it says where none do. -/
theorem fits_no {xs : List TlT} {n s : Nat} {zs : List Int} {e : Ending} (hn : NoneW n (s * s) (okW xs s s false)) (h : FtA xs n (s : Int) (s : Int) zs false e) : (∃ b f, f ≠ 0 ∧ e = .returned (.tuple #[.bool b, .iface 49 (.int .i64 ((f : Nat) : Int))])) ∨ e = .returned (.tuple #[.bool false, .nilIface]) := by
  rcases h with ⟨q, rfl⟩ | ⟨_, q, rfl⟩ | ⟨_, c0, b, rfl, hb⟩
  · exact Or.inl ⟨false, _, q, by unfold errOf; rw [if_neg q]⟩
  · exact Or.inl ⟨false, _, q, by unfold errOf; rw [if_neg q]⟩
  · rw [Int.toNat_natCast] at hb
    refine Or.inr ?_
    cases b with
    | false => rfl
    | true =>
      exfalso
      obtain ⟨_, zr⟩ := ceF_ok c0
      exact hn _ (fun i hi => ⟨by have := zr i hi; show (zs.getD i 0).toNat < n; omega, hb.1 rfl i hi⟩)
end Go.Proofs.YthmeapplnocfjaaDoor

namespace Go.Proofs.YthmeapplnocfjaaDoor
open Go.RowKit
set_option linter.unusedVariables false
set_option linter.unusedSimpArgs false
theorem infoP : (Tryd.prog.info? 3).map (fun i => (i.zero, i.size, i.bytes)) = some (some (.int .i64 0), 1, 8) := by kernel_rfl
theorem blkP {w V : World} {p : Nat} {o : Obj} (h : w.heap[p]? = some o) (b : Below w.heap.size w V) : V.heap[p]? = some o := (b.block p (lt_blockT h)).trans h
theorem argT_one (V : World) : ArgT (V.alloc (.cells #[.int .i64 1, .int .i64 2, .int .i64 1, .int .i64 2] 47)) oneT (some ⟨V.heap.size, 0, none⟩) 1 1 := by
  have e := heap_alloc_new V (.cells #[.int .i64 1, .int .i64 2, .int .i64 1, .int .i64 2] 47)
  refine ⟨rfl, by unfold maxLen; omega, fun k hk => ⟨V.heap.size, 0, rfl, lt_blockT e, ?_⟩⟩
  obtain rfl : k = 0 := by have : k < 1 := hk; omega
  exact ⟨by rw [cell_of_row _ _ _ _ _ _ e]; rfl, by rw [cell_of_row _ _ _ _ _ _ e]; rfl, by rw [cell_of_row _ _ _ _ _ _ e]; rfl, by rw [cell_of_row _ _ _ _ _ _ e]; rfl⟩
theorem wrapW {n : Nat} (h : n ≤ 10000000) : IntKind.i64.wrap (n : Int) = (n : Int) := by simp [IntKind.wrap, IntKind.bits, IntKind.signed]; omega
/-- The window while it is built. -/
def wnL (f : Nat → Nat) (N : Nat) : List Value := (List.range N).map fun k => .int .i64 ((f k : Nat) : Int)
theorem wnL_next (f : Nat → Nat) (N : Nat) : wnL f (N + 1) = wnL f N ++ [.int .i64 ((f N : Nat) : Int)] := by unfold wnL; rw [List.range_succ, List.map_append]; rfl
theorem wnL_len (f : Nat → Nat) (N : Nat) : (wnL f N).length = N := by simp [wnL]
theorem own_arg {w : World} {B N : Nat} {v : Value} {f : Nat → Nat} (h : w.ownsRow B 3 1 v N (wnL f N)) (h0 : 0 < N) (hN : N ≤ 25) : ∃ a c, v = .slice a N c ∧ ArgP w ((List.range N).map fun i => ((f i : Nat) : Int)) a N c := by
  rcases h.2 with ⟨rfl, e⟩ | ⟨g, cap, cur, rfl, hb, hg, hc⟩
  · have := wnL_len f N; omega
  · refine ⟨_, cap, rfl, ⟨by simp, by unfold maxLen; omega, fun k hk => ⟨g, 0, rfl, lt_blockT hg, ?_⟩⟩⟩
    have hk' : k < N := by simpa using hk
    have := h.cells (g := g) rfl k (.int .i64 ((f k : Nat) : Int)) (by unfold wnL; simp [hk'])
    rw [show (⟨g, 0, none⟩ : Addr).add k = ⟨g, 0 + k, none⟩ by unfold Addr.add; split <;> simp_all] at this
    rw [this]
    simp
theorem one_newW (V : World) (v : Value) (T : TypeId) : ∀ j u, [v][j]? = some u → (V.alloc (.cells #[v] T)).cell? ((⟨V.heap.size, 0, none⟩ : Addr).add j) = some u := fun j u h => by
  have j0 : j = 0 := by
    have := (List.getElem?_eq_some_iff.1 h).1
    simpa using this
  subst j0
  simp at h
  subst h
  show (V.alloc _).cell? ⟨V.heap.size, 0, none⟩ = _
  rw [cell_of_row _ _ _ _ _ _ (heap_alloc_new V (.cells #[v] T))]
  rfl
end Go.Proofs.YthmeapplnocfjaaDoor

namespace Go.Proofs.YthmeapplnocfjaaDoor
open Go.RowKit
set_option linter.unusedVariables false
set_option linter.unusedSimpArgs false
set_option maxRecDepth 100000 in
set_option maxHeartbeats 102400000 in
theorem law_wp_out (xs : List TlT) (a : Option Addr) (n c : Nat) (most W H rt dn : Int) (zs : List Int) (za : Option Addr) (zn zc : Nat) (w : World) (hA : ArgT w xs a n c) (hZ : ArgP w zs za zn zc) (hr : ¬ (1 ≤ W ∧ W ≤ 5 ∧ 1 ≤ H ∧ H ≤ 5 ∧ 0 ≤ rt ∧ rt ≤ 1000000 ∧ 0 ≤ dn ∧ dn ≤ 1000000))
    (hD : ∀ (ys : List TlT) (b : Option Addr) (m d : Nat) (M : Int) (V : World), Below w.heap.size w V → ArgT V ys b m d → Calls Tryd.prog 17 #[.slice b m d, .int .i64 M] V (WdA ys m M V))
    (hF : ∀ (X Y : Int) (ys : List Int) (b : Option Addr) (m d : Nat) (ring : Bool) (V : World), Below w.heap.size w V → ArgP V ys b m d → Calls Tryd.prog 11 #[.slice a n c, .int .i64 X, .int .i64 Y, .slice b m d, .bool ring] V fun e w' => FtA xs n X Y ys ring e ∧ Below V.heap.size V w') :
    Calls Tryd.prog 5 #[.slice a n c, .int .i64 most, .int .i64 W, .int .i64 H, .int .i64 rt, .int .i64 dn, .slice za zn zc] w fun e w' => e = .returned (.bool true) ∧ Below w.heap.size w w' := by
  have KL := hide' hA.len
  have D1 := hide' (hD oneT (some ⟨w.heap.size, 0, none⟩) 1 1 1 _ ((Below.refl _ _).alloc (Nat.le_refl _) _) (argT_one w))
  have DD := hide' (fun (V : World) (h : Below w.heap.size w V) => hD xs a n c most V h (hA.below h))
  have FF := hide' hF
  have HZ := hide' hZ
  obtain ⟨i0, hi, hzz⟩ := Option.map_eq_some_iff.1 infoP
  simp only [Prod.mk.injEq] at hzz
  obtain ⟨hz0, hz1, hz2⟩ := hzz
  have HI := hide' (And.intro hi (And.intro hz0 (And.intro hz1 hz2)))
  clear hA hZ hD hF hi hz0 hz1 hz2
  go_enter Tryd.func5, Tryd.ntmps5
  go_wp2_with fail
  refine D1.out.mono ?_
  intro e w1 r1
  obtain ⟨⟨a1, c1, rfl⟩, b1⟩ := one_dec r1
  have B1 := hide' (show Below w.heap.size w w1 from ((Below.refl _ w).alloc (Nat.le_refl _) _).trans (b1.mono (by simp)))
  clear b1 r1 D1
  go_wp2_with fail
  obtain ⟨V1, hV1⟩ : ∃ V, w1.alloc (.cells #[.bool true, .int .i64 1, .int .i64 1, .slice a1 1 c1] 40) = V := ⟨_, rfl⟩
  have BV1 := hide' (show Below w.heap.size w V1 by rw [← hV1]; exact B1.out.alloc B1.out.size _)
  try rw [hV1]
  clear hV1 B1
  refine (DD.out V1 BV1.out).mono ?_
  intro e w2 r2
  rcases r2 with ⟨q, a2, n2, c2, rfl, A2, b2⟩ | ⟨q, hl, a2, n2, c2, rfl, A2, b2⟩ | ⟨q, s, hs, a2, n2, c2, rfl, A2, b2⟩ | ⟨q, v, h, d, ht, hd, a2, n2, c2, rfl, A2, b2⟩
  · have B2 := hide' (BV1.out.trans (b2.out.mono BV1.out.size))
    rw [show errOf (sdF xs most most) = .iface 49 (.int .i64 ((sdF xs most most : Nat) : Int)) by unfold errOf; rw [if_neg q]]
    clear b2 A2 q
    obtain ⟨V2, hV2⟩ : ∃ V, w2.alloc (.cells #[.bool false, .int .i64 0, .int .i64 0, .slice a2 n2 c2] 40) = V := ⟨_, rfl⟩
    have BV2 := hide' (show Below w.heap.size w V2 by rw [← hV2]; exact B2.out.alloc B2.out.size _)
    go_wp2
    go_ret
    exact ⟨rfl, by first | (rw [hV2]; exact BV2.out) | exact BV2.out⟩
  · have B2 := hide' (BV1.out.trans (b2.out.mono BV1.out.size))
    rw [show errOf 6 = .iface 49 (.int .i64 6) from rfl]
    clear b2 A2 q hl
    obtain ⟨V2, hV2⟩ : ∃ V, w2.alloc (.cells #[.bool false, .int .i64 0, .int .i64 0, .slice a2 n2 c2] 40) = V := ⟨_, rfl⟩
    have BV2 := hide' (show Below w.heap.size w V2 by rw [← hV2]; exact B2.out.alloc B2.out.size _)
    go_wp2
    go_ret
    exact ⟨rfl, by first | (rw [hV2]; exact BV2.out) | exact BV2.out⟩
  · have B2 := hide' (BV1.out.trans (b2.out.mono BV1.out.size))
    have NN := hide' hs.2.2.2.2
    clear b2 A2 q hs
    obtain ⟨V2, hV2⟩ : ∃ V, w2.alloc (.cells #[.bool false, .int .i64 ((s : Nat) : Int), .int .i64 ((s : Nat) : Int), .slice a2 n2 c2] 40) = V := ⟨_, rfl⟩
    have BV2 := hide' (show Below w.heap.size w V2 by rw [← hV2]; exact B2.out.alloc B2.out.size _)
    have P2 : V2.heap[w2.heap.size]? = some (.cells #[.bool false, .int .i64 ((s : Nat) : Int), .int .i64 ((s : Nat) : Int), .slice a2 n2 c2] 40 (0, 0)) := by rw [← hV2]; exact heap_alloc_new _ _
    have y0 : V2.cell? ⟨w2.heap.size, 0, none⟩ = some (.bool false) := by rw [cell_of_row V2 _ _ _ _ _ P2]; rfl
    have y1 : V2.cell? ⟨w2.heap.size, 1, none⟩ = some (.int .i64 ((s : Nat) : Int)) := by rw [cell_of_row V2 _ _ _ _ _ P2]; rfl
    have y2 : V2.cell? ⟨w2.heap.size, 2, none⟩ = some (.int .i64 ((s : Nat) : Int)) := by rw [cell_of_row V2 _ _ _ _ _ P2]; rfl
    have FC := hide' (FF.out (s : Int) (s : Int) zs za zn zc false V2 BV2.out (HZ.out.below BV2.out))
    clear P2
    go_wp2_with fail
    try rw [hV2]
    refine FC.out.mono ?_
    rintro e w3 ⟨r3, b3⟩
    have B3 := hide' (BV2.out.trans (b3.mono BV2.out.size))
    have RR := hide' (fits_no NN.out r3)
    clear b3 r3 y0 y1 y2 hV2
    rcases RR.out with ⟨b, f, hf, rfl⟩ | rfl
    · clear hf RR
      go_wp2
      go_ret
      exact ⟨rfl, B3.out⟩
    · clear RR
      go_wp2
      go_ret
      exact ⟨rfl, B3.out⟩
  · have B2 := hide' (BV1.out.trans (b2.out.mono BV1.out.size))
    obtain ⟨t0, nn1, n16, ms, mu, eM, eM', m1, m5, -, -⟩ := sdF_ok q
    have HT := hide' ht
    have v1 : 1 ≤ v ∧ v ≤ 5 ∧ 1 ≤ h ∧ h ≤ 5 := by
      obtain ⟨s, q1, q2, q3, q4, q5, q6, q7, q8, q9, q10⟩ := ht
      rw [eM, Int.toNat_natCast] at q2
      omega
    obtain ⟨v1, v5, h1, h5⟩ := v1
    have hv : 0 < v := by omega
    have hh : 0 < h := by omega
    have SOL := hide' hd.1
    have LN := hide' A2.out.len
    obtain ⟨N, hN⟩ : ∃ N, v * h = N := ⟨_, rfl⟩
    have n2N : n2 = N := by rw [LN.out, ← hN]; simp
    have N25 : N ≤ 25 := by rw [← hN]; exact Nat.le_trans (Nat.mul_le_mul v5 h5) (by decide)
    have eN : ((v : Nat) : Int) * ((h : Nat) : Int) = (N : Int) := by rw [← hN]; push_cast; rfl
    subst n2N
    clear ht hd q eM eM' m1 m5 LN
    obtain ⟨V2, hV2⟩ : ∃ V, w2.alloc (.cells #[.bool true, .int .i64 ((v : Nat) : Int), .int .i64 ((h : Nat) : Int), .slice a2 n2 c2] 40) = V := ⟨_, rfl⟩
    have bv2 : Below w2.heap.size w2 V2 := by rw [← hV2]; exact (Below.refl _ _).alloc (Nat.le_refl _) _
    have BV2 := hide' (B2.out.trans (bv2.mono B2.out.size))
    have A22 := hide' (A2.out.below bv2)
    have P2 := hide' (show V2.heap[w2.heap.size]? = some (.cells #[.bool true, .int .i64 ((v : Nat) : Int), .int .i64 ((h : Nat) : Int), .slice a2 n2 c2] 40 (0, 0)) by rw [← hV2]; exact heap_alloc_new _ _)
    obtain ⟨p, hp⟩ : ∃ p, w2.heap.size = p := ⟨_, rfl⟩
    have CP := hide' (fun (V : World) (b : Below V2.heap.size V2 V) => show V.cell? ⟨p, 0, none⟩ = some (.bool true) ∧ V.cell? ⟨p, 1, none⟩ = some (.int .i64 ((v : Nat) : Int)) ∧ V.cell? ⟨p, 2, none⟩ = some (.int .i64 ((h : Nat) : Int)) ∧ V.cell? ⟨p, 3, none⟩ = some (.slice a2 n2 c2) by
      have P3 := blkP P2.out b
      rw [hp] at P3
      exact ⟨by rw [cell_of_row V _ _ _ _ _ P3]; rfl, by rw [cell_of_row V _ _ _ _ _ P3]; rfl, by rw [cell_of_row V _ _ _ _ _ P3]; rfl, by rw [cell_of_row V _ _ _ _ _ P3]; rfl⟩)
    obtain ⟨y0, y1, y2, y3⟩ := CP.out V2 (Below.refl _ _)
    have HN := hide' hN
    clear hN bv2 A2 b2
    have nb : ((n2 : Int) == (n2 : Int)) = true := by simp
    by_cases k0 : W < 1
    · go_wp2
      go_ret
      exact ⟨rfl, by first | (rw [hV2]; exact BV2.out) | exact BV2.out⟩
    · by_cases k1 : 5 < W
      · go_wp2
        go_ret
        exact ⟨rfl, by first | (rw [hV2]; exact BV2.out) | exact BV2.out⟩
      · by_cases k2 : H < 1
        · go_wp2
          go_ret
          exact ⟨rfl, by first | (rw [hV2]; exact BV2.out) | exact BV2.out⟩
        · by_cases k3 : 5 < H
          · go_wp2
            go_ret
            exact ⟨rfl, by first | (rw [hV2]; exact BV2.out) | exact BV2.out⟩
          · by_cases k4 : rt < 0
            · go_wp2
              go_ret
              exact ⟨rfl, by first | (rw [hV2]; exact BV2.out) | exact BV2.out⟩
            · by_cases k5 : 1000000 < rt
              · go_wp2
                go_ret
                exact ⟨rfl, by first | (rw [hV2]; exact BV2.out) | exact BV2.out⟩
              · by_cases k6 : dn < 0
                · go_wp2
                  go_ret
                  exact ⟨rfl, by first | (rw [hV2]; exact BV2.out) | exact BV2.out⟩
                · by_cases k7 : 1000000 < dn
                  · go_wp2
                    go_ret
                    exact ⟨rfl, by first | (rw [hV2]; exact BV2.out) | exact BV2.out⟩
                  · exact absurd ⟨by omega, by omega, by omega, by omega, by omega, by omega, by omega, by omega⟩ hr
end Go.Proofs.YthmeapplnocfjaaDoor

