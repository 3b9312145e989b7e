/-
  What the last text of this claim leans on, part 5: Sw9, Rw3, Rv2, Swa, Swb, Swc.
-/
import Derived.Test.YtpajdmhgonmgoaaDoorYs4
import Derived.Laws.Tables
import Derived.Laws.Rows
import Derived.Laws.CopyOwn
import Derived.Laws.IdiomCopy
import Derived.Lib.SliceRun
namespace Go.Proofs.YtpajdmhgonmgoaaDoor
open Go.RowKit
set_option linter.unusedVariables false
set_option linter.unusedSimpArgs false
theorem arrS_size (n : Nat) (f : Nat → Value) : (arrS n f).size = n := by simp [arrS]
theorem arrS_all (n : Nat) (F : Nat → Int) : (arrS n fun k => .int .i64 (F k)).all (·.oneCell') = true := by
  rw [Array.all_eq_true]
  intro i h
  simp [arrS]
  rfl
theorem set_arrI (n i : Nat) (F : Nat → Int) (z : Int) : (arrS n fun k => .int .i64 (F k)).setIfInBounds i (.int .i64 z) = arrS n fun k => .int .i64 (upI F i z k) := by
  rw [arrS_set]
  exact arrS_ext fun k _ => by unfold upI; by_cases q : k = i <;> simp [q]
theorem size_ground : (Tryd.prog.info? 58).map (·.size) = some 112 := by kernel_rfl
theorem heap_setRow_other (w : World) (g k : Nat) (cs : Array Value) (h : k ≠ g) : (w.setRow g cs).heap[k]? = w.heap[k]? := by
  unfold World.setRow
  dsimp only
  rw [Array.getElem?_modify]
  rw [if_neg (fun e => h e.symm)]
theorem zero_groundS (W : World) : Sem.run Tryd.prog (zeroValue 58) W = .ok (.agg (arrS 112 fun _ => .int .i64 0)) W := by kernel_rfl
end Go.Proofs.YtpajdmhgonmgoaaDoor

namespace Go.Proofs.YtpajdmhgonmgoaaDoor
open Go.RowKit
set_option linter.unusedVariables false
def CloneOut (w : World) (xs : List Int) (n : Nat) (e : Ending) (w' : World) : Prop := ∃ g q, e = .returned (.slice (some ⟨g, 0, none⟩) n q) ∧ w'.ownsRow w.heap.size 3 1 (.slice (some ⟨g, 0, none⟩) n q) n (xs.map (Value.int .i64)) ∧ Below w.heap.size w w' ∧ w.heap.size ≤ g
set_option maxRecDepth 100000 in
set_option maxHeartbeats 3200000 in
theorem cloneR_any (xs : List Int) (a : Option Addr) (n c : Nat) (w : World) (hA : ArgP w xs a n c) (n1 : 1 ≤ n) (n2 : n ≤ 10) :
    Calls Tryd.prog 33 #[.slice a n c] w (CloneOut w xs n) := by
  obtain ⟨i0, hi0, hz⟩ := Option.map_eq_some_iff.1 info_int
  simp only [Prod.mk.injEq] at hz
  obtain ⟨hz0, hz1, hz2⟩ := hz
  obtain ⟨g0, off, rfl, hg0, -⟩ := hA.cells 0 (by have := hA.len; omega)
  have q22 : ∀ (w : World) (a : Option Addr) (n c n' c' : Nat), (binOp .eql 25 (.slice a n c) (.slice none n' c')).run Tryd.prog w = .ok (.bool a.isNone) w := fun w a n c n' c' => Lib.run_eql_slice_nil w _ _ a n c n' c' Tryd.underlying25
  have LN := hide' hA.len
  have NW := hide' (show ∀ j u, (xs.map (Value.int .i64))[j]? = some u → ∀ ob, (w.alloc ob).cell? ((⟨g0, off, none⟩ : Addr).add j) = some u from fun j u hj ob => by
    have hl : j < xs.length := by simpa using (List.getElem?_eq_some_iff.1 hj).1
    obtain ⟨g, o, e, hg, hc⟩ := hA.cells j hl
    simp at e
    obtain ⟨rfl, rfl⟩ := e
    have ad : (⟨g0, off, none⟩ : Addr).add j = ⟨g0, off + j, none⟩ := by unfold Addr.add; split <;> simp_all
    rw [ad, World.cell?_alloc_lt _ _ _ hg, hc]
    simpa [hl] using hj)
  clear hA hg0
  go_enter Tryd.func33, Tryd.ntmps33
  go_wp2_with (at_builtin; refine wpList_append_own _ rfl _ _ 25 rfl w.heap.size 3 i0 (.int .i64 0) 1 8 Tryd.underlying25 hi0 hz0 hz1 hz2 rfl (by decide) _ _ _ rfl (World.ownsRow_made w #[] 0 (Nat.le_refl _) (Nat.zero_le _) rfl) ⟨g0, off, none⟩ n c (xs.map (Value.int .i64)) rfl (by rw [List.length_map]; have := LN.out; omega) (fun j u hj => NW.out j u hj _) (fun u hu => by obtain ⟨x, _, rfl⟩ := List.mem_map.1 hu; rfl) (by unfold maxLen; omega) (by omega) (by simp) ?_)
  intro v' w1 hown hgrow hnil
  go_wp2
  go_ret
  have hown : w1.ownsRow w.heap.size 3 1 v' n (xs.map (Value.int .i64)) := by simpa using hown
  obtain ⟨g, cap, rfl, hb, hlt⟩ := hown.form (by omega)
  exact ⟨g, cap, rfl, hown, ((Below.refl _ w).alloc (Nat.le_refl _) _).grown hgrow (by simp) (by intro k hk; simp [Value.ownBlock] at hk; omega), hb⟩
end Go.Proofs.YtpajdmhgonmgoaaDoor

namespace Go.Proofs.YtpajdmhgonmgoaaDoor
open Go.RowKit
set_option linter.unusedVariables false
/-- Values put into slots, one behind another. -/
def putsL (a : Act) : List (Nat × Value) → Act
  | [] => a
  | p :: r => putsL (a.put (some p.1) p.2) r
theorem putsL_defers : ∀ (l : List (Nat × Value)) (a : Act), (putsL a l).defers = a.defers
  | [], _ => rfl
  | p :: r, a => by rw [putsL, putsL_defers r, put_defersE]
theorem putsL_far : ∀ (l : List (Nat × Value)) (a : Act) (t : Nat), (∀ p ∈ l, p.1 < a.tmps.size) → (∀ p ∈ l, p.1 ≠ t) → (putsL a l).tmps[t]? = a.tmps[t]?
  | [], _, _, _, _ => rfl
  | p :: r, a, t, hs, hn => by
    rw [putsL, putsL_far r _ t (fun q hq => by rw [put_sizeE]; exact hs q (List.mem_cons_of_mem _ hq)) (fun q hq => hn q (List.mem_cons_of_mem _ hq)), put_getE _ _ _ _ (hs p (List.mem_cons_self ..)), if_neg (fun e => hn p (List.mem_cons_self ..) e.symm)]
theorem putsL_at : ∀ (l : List (Nat × Value)) (a : Act) (i : Nat) (p : Nat × Value), (∀ p ∈ l, p.1 < a.tmps.size) → (l.map (·.1)).Nodup → l[i]? = some p → (putsL a l).tmps[p.1]? = some p.2
  | [], _, _, _, _, _, h => by simp at h
  | q :: r, a, 0, p, hs, hd, h => by
    simp at h
    subst h
    rw [List.map_cons, List.nodup_cons] at hd
    rw [putsL, putsL_far r _ _ (fun x hx => by rw [put_sizeE]; exact hs x (List.mem_cons_of_mem _ hx)) (fun x hx e => hd.1 (by rw [← e]; exact List.mem_map_of_mem hx)), put_getE _ _ _ _ (hs q (List.mem_cons_self ..)), if_pos rfl]
  | q :: r, a, i + 1, p, hs, hd, h => by
    rw [List.map_cons, List.nodup_cons] at hd
    rw [putsL]
    exact putsL_at r _ i p (fun x hx => by rw [put_sizeE]; exact hs x (List.mem_cons_of_mem _ hx)) hd.2 (by simpa using h)
theorem act_putsL {a a0 : Act} {dl : List Nat} {vals : Nat → Value} (hs : a.tmps.size = a0.tmps.size) (hd : a.defers = a0.defers) (hz : ∀ t ∈ dl, t < a0.tmps.size) (nd : dl.Nodup) (hk : ∀ t, t ∉ dl → a.tmps[t]? = a0.tmps[t]?) (hv : ∀ i, i < dl.length → a.tmps[dl.getD i 0]? = some (vals i)) :
    a = putsL a0 ((List.range dl.length).map fun i => (dl.getD i 0, vals i)) := by
  obtain ⟨l, hl⟩ : ∃ l, ((List.range dl.length).map fun i => (dl.getD i 0, vals i)) = l := ⟨_, rfl⟩
  have l1 : l.map (·.1) = dl := by
    rw [← hl]
    apply List.ext_getElem
    · simp
    · intro i h1 h2
      simp [List.getD, h2]
  have inl : ∀ p ∈ l, p.1 ∈ dl := fun p hp => by rw [← l1]; exact List.mem_map_of_mem hp
  rw [hl]
  have e : a.tmps = (putsL a0 l).tmps := Array.ext_getElem? fun t => by
    by_cases c : t ∈ dl
    · obtain ⟨i, hi, rfl⟩ := List.getElem_of_mem c
      have g : dl.getD i 0 = dl[i] := by simp [List.getD, hi]
      have h1 := hv i hi
      rw [g] at h1
      rw [h1]
      have h2 : l[i]? = some (dl[i], vals i) := by rw [← hl]; simp [hi]
      exact (putsL_at l a0 i _ (fun p hp => hz _ (inl p hp)) (by rw [l1]; exact nd) h2).symm
    · rw [hk t c, putsL_far l a0 t (fun p hp => hz _ (inl p hp)) (fun p hp e => c (by rw [← e]; exact inl p hp))]
  have f := putsL_defers l a0
  cases a
  cases hp : putsL a0 l
  rw [hp] at e f
  simp at e f hd
  subst e
  rw [hd, f]
structure RWs (a0 a : Act) (n : Nat) (dl : List Nat) (deps : List (Nat × Nat)) (R : (Nat → Bool) → (Nat → Value) → World → Prop) (w : World) (l : Array Bool) : Prop where
  lsz : l.size = n
  sz : a.tmps.size = a0.tmps.size
  df : a.defers = a0.defers
  keep : ∀ t, t ∉ dl → a.tmps[t]? = a0.tmps[t]?
  cl : ∀ i j, (i, j) ∈ deps → l.getD i false = true → l.getD j false = true
  st : ∃ vals, R (fun i => l.getD i false) vals w ∧ (∀ i, i < n → l.getD i false = true → a.tmps[dl.getD i 0]? = some (vals i))
theorem getD_inj {dl : List Nat} (nd : dl.Nodup) {i j : Nat} (hi : i < dl.length) (hj : j < dl.length) (e : dl.getD i 0 = dl.getD j 0) : i = j := by
  have a : dl.getD i 0 = dl[i] := by simp [List.getD, hi]
  have b : dl.getD j 0 = dl[j] := by simp [List.getD, hj]
  rw [a, b] at e
  exact (List.getElem_inj nd).1 e
set_option maxHeartbeats 3200000 in
theorem regionW {P : Program} {id : Nat} {Q : Exit → Act → World → Prop} {a0 : Act} {w0 : World} (hm : P.follows .mixedOrders = true) (ops : Array Oper) (n : Nat) (dl : List Nat) (deps : List (Nat × Nat)) (R : (Nat → Bool) → (Nat → Value) → World → Prop)
    (hn : ops.size = n) (hl : dl.length = n) (nd : dl.Nodup) (hz : ∀ t ∈ dl, t < a0.tmps.size)
    (hg : (ops.toList.all fun o => o.guard.isNone) = true)
    (hd : ops.toList.map (·.dst) = dl.map some)
    (E1 : ((List.range n).all fun k => ((ops[k]?).map fun o => o.after.all fun e => !Region.binds .any e || decide (e.on < k)).getD false) = true)
    (E2 : (deps.all fun (x : Nat × Nat) => ((ops[x.1]?).map fun o => o.after.any fun e => Region.binds .any e && e.on == x.2).getD false) = true)
    (hcong : ∀ L L' vals w, (∀ i, i < n → L i = L' i) → R L vals w → R L' vals w)
    (h0 : R (fun _ => false) (fun _ => undef) w0.drew)
    (hstep : ∀ (L : Nat → Bool) vals w (a : Act) i o (K : Act → World → Prop), i < n → ops[i]? = some o → R L vals w → (∀ p q, (p, q) ∈ deps → L p = true → L q = true) → L i = false → (∀ j, (i, j) ∈ deps → L j = true) → (∀ t, t ∉ dl → a.tmps[t]? = a0.tmps[t]?) → (∀ j, j < n → L j = true → a.tmps[dl.getD j 0]? = some (vals j)) → (∀ v w', R (fun j => if j = i then true else L j) (fun j => if j = i then v else vals j) w' → K (a.put o.dst v) w') → o.wp P a w K Q)
    (hQ : ∀ (L : Nat → Bool) vals w, R L vals w → (∀ i, i < n → L i = true) → Q .normal (putsL a0 ((List.range n).map fun i => (dl.getD i 0, vals i))) w) :
    (Code.region id ops true).wp P Q a0 w0 := by
  have gd : ∀ (i : Nat) (o : Oper), ops[i]? = some o → o.guard = none := fun i o h => by
    have := List.all_eq_true.1 hg o (Array.mem_toList_iff.2 (Array.mem_of_getElem? h))
    simpa using this
  have ds : ∀ (i : Nat) (o : Oper), i < n → ops[i]? = some o → o.dst = some (dl.getD i 0) := fun i o hi h => by
    have e := congrArg (fun l => l[i]?) hd
    simp only [List.getElem?_map, Array.getElem?_toList, h, Option.map_some] at e
    have il : i < dl.length := by omega
    rw [List.getElem?_eq_getElem il] at e
    simp at e
    rw [e]
    simp [List.getD, il]
  refine wp_region_any hm (wpAny_inv (fun l a w => RWs a0 a n dl deps R w l) ?_ ?_ _ _ _ _ (by simp) ?_)
  · intro l a w S i hr
    obtain ⟨hlt, o, ho, _⟩ := mem_ready.1 hr
    have hi : i < n := by
      rcases Nat.lt_or_ge i n with h | h
      · exact h
      · rw [Array.getElem?_eq_none (by omega)] at ho; cases ho
    have il : i < l.size := by rw [S.lsz]; exact hi
    have lf : l.getD i false = false := by
      have h2 : l[i]? = some l[i] := by simp [il]
      simp only [Array.getD_eq_getD_getElem?, h2, Option.getD_some] at hlt ⊢
      exact hlt
    have cl := clV_step il hr S.cl E2
    have need : ∀ j, (i, j) ∈ deps → l.getD j false = true := fun j m => ready_needs hr ((List.all_eq_true.1 E2) (i, j) m)
    have ls' : (l.setIfInBounds i true).size = n := by simp [S.lsz]
    have gs := fun j => getD_set l i j il
    obtain ⟨vals, hR, hv⟩ := S.st
    refine wpOp_of ho (gd i o ho) ?_
    refine hstep (fun i => l.getD i false) vals w a i o _ hi ho hR S.cl lf need S.keep hv ?_
    intro v w2 hR2
    rw [ds i o hi ho]
    have dm : dl.getD i 0 ∈ dl := by
      have : dl.getD i 0 = dl[i]'(by omega) := by simp [List.getD, show i < dl.length by omega]
      rw [this]; exact List.getElem_mem _
    have sz : dl.getD i 0 < a.tmps.size := by rw [S.sz]; exact hz _ dm
    refine ⟨ls', by rw [put_sizeE]; exact S.sz, by rw [put_defersE]; exact S.df, fun t ht => ?_, cl, (fun j => if j = i then v else vals j), ?_, fun j hj hl' => ?_⟩
    · rw [put_getE _ _ _ _ sz, if_neg (fun e => ht (by rw [e]; exact dm))]; exact S.keep t ht
    · refine hcong _ _ _ _ (fun j _ => ?_) hR2
      rw [gs]
    · rw [put_getE _ _ _ _ sz]
      by_cases e : j = i
      · subst e; simp
      · rw [if_neg (fun q => e (getD_inj nd (by omega) (by omega) q))]
        simp only [if_neg e]
        rw [gs, if_neg e] at hl'
        exact hv j hj hl'
  · intro l a w S hr
    have h : ∀ k, k < n → l.getD k false = true := fun k hk => by
      have h1 := ready_noneE hr (by rw [S.lsz, hn]) (fun k hk => (List.all_eq_true.1 E1) k (List.mem_range.2 (by omega))) k (by omega)
      have kl : k < l.size := by rw [S.lsz]; exact hk
      simpa [Array.getD_eq_getD_getElem?, kl] using h1
    obtain ⟨vals, hR, hv⟩ := S.st
    rw [act_putsL (a0 := a0) (dl := dl) (vals := vals) S.sz S.df hz nd S.keep (fun i hi => hv i (by omega) (h i (by omega)))]
    rw [hl]
    exact hQ (fun i => l.getD i false) vals w hR (fun i hi => h i hi)
  · have f : ∀ i, (Array.replicate ops.size false).getD i false = false := fun i => by simp [Array.getD_eq_getD_getElem?, Array.getElem?_replicate]; split <;> rfl
    refine ⟨by simp [hn], rfl, rfl, fun _ _ => rfl, fun i j _ h => (by rw [f] at h; cases h), fun _ => undef, ?_, fun i _ h => (by rw [f] at h; cases h)⟩
    exact hcong _ _ _ _ (fun i _ => (f i).symm) h0
end Go.Proofs.YtpajdmhgonmgoaaDoor

namespace Go.Proofs.YtpajdmhgonmgoaaDoor
open Go.RowKit
set_option linter.unusedVariables false
set_option linter.unusedSimpArgs false
theorem fold_size (off : Nat) : ∀ (l : List (Value × Nat)) (Z : Array Value), (l.foldl (fun cs (c : Value × Nat) => cs.setIfInBounds (off + c.2) c.1) Z).size = Z.size
  | [], _ => rfl
  | c :: l, Z => by rw [List.foldl_cons, fold_size off l, Array.size_setIfInBounds]
theorem fill_cons {place : Nat → Option (Nat × Nat)} {cells : Array Value} {i off size : Nat} {v : Value} {rest : List (Nat × Value)} (hp : place i = some (off, size)) (hs : v.cells.size = size) (hl : off + size ≤ cells.size) :
    Instr.fill place cells ((i, v) :: rest) = Instr.fill place (v.cells.zipIdx.foldl (fun cs (c, j) => cs.setIfInBounds (off + j) c) cells) rest := by
  rw [Instr.fill, hp]
  dsimp only
  rw [if_neg]
  simp only [ne_eq, decide_not, Bool.or_eq_true, Bool.not_eq_true', decide_eq_false_iff_not, decide_eq_true_eq]
  omega
theorem pile_info : (match Tryd.prog.info? 60, Tryd.prog.underlying 60 with
  | some it, some (.struct fields) => (it.zero.map (·.cells.size), fields.toList.mapM (fun f => (Tryd.prog.info? f.type).map fun i => (f.offset, i.size)))
  | _, _ => (none, none)) = (some 114, some [(0, 112), (112, 1), (113, 1)]) := by kernel_rfl
/-- A pile that lies there. -/
def PileAt (w : World) (B : Nat) (v : Value) : Prop := ∃ pb C a n c, v = .pointer (some ⟨pb, 0, none⟩) ∧ w.heap[pb]? = some (.cells C 60 (0, 0)) ∧ C[112]? = some (.slice a n c) ∧ B ≤ pb
theorem PileAt.next {w w' : World} {B : Nat} {v : Value} (h : PileAt w B v) (b : Below w.heap.size w w') : PileAt w' B v := by
  obtain ⟨pb, C, a, n, c, h1, h2, h3, h4⟩ := h
  exact ⟨pb, C, a, n, c, h1, (b.block pb (ltS_of_block h2)).trans h2, h3, h4⟩
structure PoR (pvl : List (Option Value)) (W : World) (P : Nat) (L : Nat → Bool) (vals : Nat → Value) (w : World) : Prop where
  pure : ∀ i u, pvl[i]? = some (some u) → L i = true → vals i = u
  bl : Below W.heap.size W w
  v2 : L 2 = true → ∃ F : Nat → Int, vals 2 = .agg (arrS 112 fun k => .int .i64 (F k))
  v4 : L 4 = true → ∃ g q, vals 4 = .slice (some ⟨g, 0, none⟩) P q
  v7 : L 7 = true → ∃ g, vals 7 = .slice (some ⟨g, 0, none⟩) P P
  v8 : L 8 = true → ∃ (C : Array Value) (a : Option Addr) (n c : Nat), vals 8 = .agg C ∧ C[112]? = some (.slice a n c)
  v9 : L 9 = true → PileAt w W.heap.size (vals 9)
  v10 : L 10 = true → PileAt w W.heap.size (vals 10)
theorem PoR.cong {pvl : List (Option Value)} {W : World} {P : Nat} {L L' : Nat → Bool} {vals : Nat → Value} {w : World} (hl : pvl.length = 11) (e : ∀ i, i < 11 → L i = L' i) (h : PoR pvl W P L vals w) : PoR pvl W P L' vals w :=
  ⟨fun i u hi hL => h.pure i u hi (by rw [e i (by have := (List.getElem?_eq_some_iff.1 hi).1; omega)]; exact hL), h.bl, fun q => h.v2 (by rw [e 2 (by omega)]; exact q), fun q => h.v4 (by rw [e 4 (by omega)]; exact q), fun q => h.v7 (by rw [e 7 (by omega)]; exact q), fun q => h.v8 (by rw [e 8 (by omega)]; exact q), fun q => h.v9 (by rw [e 9 (by omega)]; exact q), fun q => h.v10 (by rw [e 10 (by omega)]; exact q)⟩
theorem PoR.start (pvl : List (Option Value)) (W : World) (P : Nat) (vals : Nat → Value) : PoR pvl W P (fun _ => false) vals W :=
  ⟨fun i u _ h => (by cases h), Below.refl _ _, fun h => (by cases h), fun h => (by cases h), fun h => (by cases h), fun h => (by cases h), fun h => (by cases h), fun h => (by cases h)⟩
theorem PoR.step {pvl : List (Option Value)} {W : World} {P : Nat} {L : Nat → Bool} {vals : Nat → Value} {w w' : World} (h : PoR pvl W P L vals w) (b : Below w.heap.size w w') (i : Nat) (v : Value)
    (h0 : ∀ u, pvl[i]? = some (some u) → v = u) (h2 : i = 2 → ∃ F : Nat → Int, v = .agg (arrS 112 fun k => .int .i64 (F k))) (h4 : i = 4 → ∃ g q, v = .slice (some ⟨g, 0, none⟩) P q) (h7 : i = 7 → ∃ g, v = .slice (some ⟨g, 0, none⟩) P P)
    (h8 : i = 8 → ∃ (C : Array Value) (a : Option Addr) (n c : Nat), v = .agg C ∧ C[112]? = some (.slice a n c)) (h9 : i = 9 → PileAt w' W.heap.size v) (h10 : i = 10 → PileAt w' W.heap.size v) :
    PoR pvl W P (fun j => if j = i then true else L j) (fun j => if j = i then v else vals j) w' := by
  refine ⟨fun j u hj hL => ?_, h.bl.trans (b.mono h.bl.size), fun q => ?_, fun q => ?_, fun q => ?_, fun q => ?_, fun q => ?_, fun q => ?_⟩
  · by_cases e : j = i
    · rw [if_pos e]; rw [e] at hj; exact h0 u hj
    · rw [if_neg e] at hL ⊢; exact h.pure j u hj hL
  · by_cases e : 2 = i
    · rw [if_pos e]; exact h2 e.symm
    · rw [if_neg e] at q ⊢; exact h.v2 q
  · by_cases e : 4 = i
    · rw [if_pos e]; exact h4 e.symm
    · rw [if_neg e] at q ⊢; exact h.v4 q
  · by_cases e : 7 = i
    · rw [if_pos e]; exact h7 e.symm
    · rw [if_neg e] at q ⊢; exact h.v7 q
  · by_cases e : 8 = i
    · rw [if_pos e]; exact h8 e.symm
    · rw [if_neg e] at q ⊢; exact h.v8 q
  · by_cases e : 9 = i
    · rw [if_pos e]; exact h9 e.symm
    · rw [if_neg e] at q ⊢; exact (h.v9 q).next b
  · by_cases e : 10 = i
    · rw [if_pos e]; exact h10 e.symm
    · rw [if_neg e] at q ⊢; exact (h.v10 q).next b
def depsB : List (Nat × Nat) := [(2, 0), (2, 1), (4, 3), (6, 5), (7, 6), (8, 2), (8, 4), (8, 7), (9, 8), (10, 9)]
end Go.Proofs.YtpajdmhgonmgoaaDoor

namespace Go.Proofs.YtpajdmhgonmgoaaDoor
open Go.RowKit
set_option linter.unusedVariables false
set_option linter.unusedSimpArgs false
end Go.Proofs.YtpajdmhgonmgoaaDoor

namespace Go.Proofs.YtpajdmhgonmgoaaDoor
open Go.RowKit
set_option linter.unusedVariables false
set_option linter.unusedSimpArgs false
end Go.Proofs.YtpajdmhgonmgoaaDoor

