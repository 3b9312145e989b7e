/-
  What the last text of this claim leans on, part 23: Rv2, Swa, Swb, Swc, Ke1, Ke2.
-/
import Derived.Test.YtpajdmhgonmgoaaDoorYt11
import Derived.Test.YtpajdmhgonmgoaaDoorYt22
namespace Go.Proofs.YtpajdmhgonmgoaaDoor
open Go.RowKit
set_option linter.unusedVariables false
/-- Values put into slots, one behind another. -/
def putsL (a : Act) : List (Nat × Value) → Act
  | [] => a
  | p :: r => putsL (a.put (some p.1) p.2) r
theorem putsL_defers : ∀ (l : List (Nat × Value)) (a : Act), (putsL a l).defers = a.defers
  | [], _ => rfl
  | p :: r, a => by rw [putsL, putsL_defers r, put_defersE]
theorem putsL_far : ∀ (l : List (Nat × Value)) (a : Act) (t : Nat), (∀ p ∈ l, p.1 < a.tmps.size) → (∀ p ∈ l, p.1 ≠ t) → (putsL a l).tmps[t]? = a.tmps[t]?
  | [], _, _, _, _ => rfl
  | p :: r, a, t, hs, hn => by
    rw [putsL, putsL_far r _ t (fun q hq => by rw [put_sizeE]; exact hs q (List.mem_cons_of_mem _ hq)) (fun q hq => hn q (List.mem_cons_of_mem _ hq)), put_getE _ _ _ _ (hs p (List.mem_cons_self ..)), if_neg (fun e => hn p (List.mem_cons_self ..) e.symm)]
theorem putsL_at : ∀ (l : List (Nat × Value)) (a : Act) (i : Nat) (p : Nat × Value), (∀ p ∈ l, p.1 < a.tmps.size) → (l.map (·.1)).Nodup → l[i]? = some p → (putsL a l).tmps[p.1]? = some p.2
  | [], _, _, _, _, _, h => by simp at h
  | q :: r, a, 0, p, hs, hd, h => by
    simp at h
    subst h
    rw [List.map_cons, List.nodup_cons] at hd
    rw [putsL, putsL_far r _ _ (fun x hx => by rw [put_sizeE]; exact hs x (List.mem_cons_of_mem _ hx)) (fun x hx e => hd.1 (by rw [← e]; exact List.mem_map_of_mem hx)), put_getE _ _ _ _ (hs q (List.mem_cons_self ..)), if_pos rfl]
  | q :: r, a, i + 1, p, hs, hd, h => by
    rw [List.map_cons, List.nodup_cons] at hd
    rw [putsL]
    exact putsL_at r _ i p (fun x hx => by rw [put_sizeE]; exact hs x (List.mem_cons_of_mem _ hx)) hd.2 (by simpa using h)
theorem act_putsL {a a0 : Act} {dl : List Nat} {vals : Nat → Value} (hs : a.tmps.size = a0.tmps.size) (hd : a.defers = a0.defers) (hz : ∀ t ∈ dl, t < a0.tmps.size) (nd : dl.Nodup) (hk : ∀ t, t ∉ dl → a.tmps[t]? = a0.tmps[t]?) (hv : ∀ i, i < dl.length → a.tmps[dl.getD i 0]? = some (vals i)) :
    a = putsL a0 ((List.range dl.length).map fun i => (dl.getD i 0, vals i)) := by
  obtain ⟨l, hl⟩ : ∃ l, ((List.range dl.length).map fun i => (dl.getD i 0, vals i)) = l := ⟨_, rfl⟩
  have l1 : l.map (·.1) = dl := by
    rw [← hl]
    apply List.ext_getElem
    · simp
    · intro i h1 h2
      simp [List.getD, h2]
  have inl : ∀ p ∈ l, p.1 ∈ dl := fun p hp => by rw [← l1]; exact List.mem_map_of_mem hp
  rw [hl]
  have e : a.tmps = (putsL a0 l).tmps := Array.ext_getElem? fun t => by
    by_cases c : t ∈ dl
    · obtain ⟨i, hi, rfl⟩ := List.getElem_of_mem c
      have g : dl.getD i 0 = dl[i] := by simp [List.getD, hi]
      have h1 := hv i hi
      rw [g] at h1
      rw [h1]
      have h2 : l[i]? = some (dl[i], vals i) := by rw [← hl]; simp [hi]
      exact (putsL_at l a0 i _ (fun p hp => hz _ (inl p hp)) (by rw [l1]; exact nd) h2).symm
    · rw [hk t c, putsL_far l a0 t (fun p hp => hz _ (inl p hp)) (fun p hp e => c (by rw [← e]; exact inl p hp))]
  have f := putsL_defers l a0
  cases a
  cases hp : putsL a0 l
  rw [hp] at e f
  simp at e f hd
  subst e
  rw [hd, f]
structure RWs (a0 a : Act) (n : Nat) (dl : List Nat) (deps : List (Nat × Nat)) (R : (Nat → Bool) → (Nat → Value) → World → Prop) (w : World) (l : Array Bool) : Prop where
  lsz : l.size = n
  sz : a.tmps.size = a0.tmps.size
  df : a.defers = a0.defers
  keep : ∀ t, t ∉ dl → a.tmps[t]? = a0.tmps[t]?
  cl : ∀ i j, (i, j) ∈ deps → l.getD i false = true → l.getD j false = true
  st : ∃ vals, R (fun i => l.getD i false) vals w ∧ (∀ i, i < n → l.getD i false = true → a.tmps[dl.getD i 0]? = some (vals i))
theorem getD_inj {dl : List Nat} (nd : dl.Nodup) {i j : Nat} (hi : i < dl.length) (hj : j < dl.length) (e : dl.getD i 0 = dl.getD j 0) : i = j := by
  have a : dl.getD i 0 = dl[i] := by simp [List.getD, hi]
  have b : dl.getD j 0 = dl[j] := by simp [List.getD, hj]
  rw [a, b] at e
  exact (List.getElem_inj nd).1 e
set_option maxHeartbeats 3200000 in
theorem regionW {P : Program} {id : Nat} {Q : Exit → Act → World → Prop} {a0 : Act} {w0 : World} (hm : P.follows .mixedOrders = true) (ops : Array Oper) (n : Nat) (dl : List Nat) (deps : List (Nat × Nat)) (R : (Nat → Bool) → (Nat → Value) → World → Prop)
    (hn : ops.size = n) (hl : dl.length = n) (nd : dl.Nodup) (hz : ∀ t ∈ dl, t < a0.tmps.size)
    (hg : (ops.toList.all fun o => o.guard.isNone) = true)
    (hd : ops.toList.map (·.dst) = dl.map some)
    (E1 : ((List.range n).all fun k => ((ops[k]?).map fun o => o.after.all fun e => !Region.binds .any e || decide (e.on < k)).getD false) = true)
    (E2 : (deps.all fun (x : Nat × Nat) => ((ops[x.1]?).map fun o => o.after.any fun e => Region.binds .any e && e.on == x.2).getD false) = true)
    (hcong : ∀ L L' vals w, (∀ i, i < n → L i = L' i) → R L vals w → R L' vals w)
    (h0 : R (fun _ => false) (fun _ => undef) w0.drew)
    (hstep : ∀ (L : Nat → Bool) vals w (a : Act) i o (K : Act → World → Prop), i < n → ops[i]? = some o → R L vals w → (∀ p q, (p, q) ∈ deps → L p = true → L q = true) → L i = false → (∀ j, (i, j) ∈ deps → L j = true) → (∀ t, t ∉ dl → a.tmps[t]? = a0.tmps[t]?) → (∀ j, j < n → L j = true → a.tmps[dl.getD j 0]? = some (vals j)) → (∀ v w', R (fun j => if j = i then true else L j) (fun j => if j = i then v else vals j) w' → K (a.put o.dst v) w') → o.wp P a w K Q)
    (hQ : ∀ (L : Nat → Bool) vals w, R L vals w → (∀ i, i < n → L i = true) → Q .normal (putsL a0 ((List.range n).map fun i => (dl.getD i 0, vals i))) w) :
    (Code.region id ops true).wp P Q a0 w0 := by
  have gd : ∀ (i : Nat) (o : Oper), ops[i]? = some o → o.guard = none := fun i o h => by
    have := List.all_eq_true.1 hg o (Array.mem_toList_iff.2 (Array.mem_of_getElem? h))
    simpa using this
  have ds : ∀ (i : Nat) (o : Oper), i < n → ops[i]? = some o → o.dst = some (dl.getD i 0) := fun i o hi h => by
    have e := congrArg (fun l => l[i]?) hd
    simp only [List.getElem?_map, Array.getElem?_toList, h, Option.map_some] at e
    have il : i < dl.length := by omega
    rw [List.getElem?_eq_getElem il] at e
    simp at e
    rw [e]
    simp [List.getD, il]
  refine wp_region_any hm (wpAny_inv (fun l a w => RWs a0 a n dl deps R w l) ?_ ?_ _ _ _ _ (by simp) ?_)
  · intro l a w S i hr
    obtain ⟨hlt, o, ho, _⟩ := mem_ready.1 hr
    have hi : i < n := by
      rcases Nat.lt_or_ge i n with h | h
      · exact h
      · rw [Array.getElem?_eq_none (by omega)] at ho; cases ho
    have il : i < l.size := by rw [S.lsz]; exact hi
    have lf : l.getD i false = false := by
      have h2 : l[i]? = some l[i] := by simp [il]
      simp only [Array.getD_eq_getD_getElem?, h2, Option.getD_some] at hlt ⊢
      exact hlt
    have cl := clV_step il hr S.cl E2
    have need : ∀ j, (i, j) ∈ deps → l.getD j false = true := fun j m => ready_needs hr ((List.all_eq_true.1 E2) (i, j) m)
    have ls' : (l.setIfInBounds i true).size = n := by simp [S.lsz]
    have gs := fun j => getD_set l i j il
    obtain ⟨vals, hR, hv⟩ := S.st
    refine wpOp_of ho (gd i o ho) ?_
    refine hstep (fun i => l.getD i false) vals w a i o _ hi ho hR S.cl lf need S.keep hv ?_
    intro v w2 hR2
    rw [ds i o hi ho]
    have dm : dl.getD i 0 ∈ dl := by
      have : dl.getD i 0 = dl[i]'(by omega) := by simp [List.getD, show i < dl.length by omega]
      rw [this]; exact List.getElem_mem _
    have sz : dl.getD i 0 < a.tmps.size := by rw [S.sz]; exact hz _ dm
    refine ⟨ls', by rw [put_sizeE]; exact S.sz, by rw [put_defersE]; exact S.df, fun t ht => ?_, cl, (fun j => if j = i then v else vals j), ?_, fun j hj hl' => ?_⟩
    · rw [put_getE _ _ _ _ sz, if_neg (fun e => ht (by rw [e]; exact dm))]; exact S.keep t ht
    · refine hcong _ _ _ _ (fun j _ => ?_) hR2
      rw [gs]
    · rw [put_getE _ _ _ _ sz]
      by_cases e : j = i
      · subst e; simp
      · rw [if_neg (fun q => e (getD_inj nd (by omega) (by omega) q))]
        simp only [if_neg e]
        rw [gs, if_neg e] at hl'
        exact hv j hj hl'
  · intro l a w S hr
    have h : ∀ k, k < n → l.getD k false = true := fun k hk => by
      have h1 := ready_noneE hr (by rw [S.lsz, hn]) (fun k hk => (List.all_eq_true.1 E1) k (List.mem_range.2 (by omega))) k (by omega)
      have kl : k < l.size := by rw [S.lsz]; exact hk
      simpa [Array.getD_eq_getD_getElem?, kl] using h1
    obtain ⟨vals, hR, hv⟩ := S.st
    rw [act_putsL (a0 := a0) (dl := dl) (vals := vals) S.sz S.df hz nd S.keep (fun i hi => hv i (by omega) (h i (by omega)))]
    rw [hl]
    exact hQ (fun i => l.getD i false) vals w hR (fun i hi => h i hi)
  · have f : ∀ i, (Array.replicate ops.size false).getD i false = false := fun i => by simp [Array.getD_eq_getD_getElem?, Array.getElem?_replicate]; split <;> rfl
    refine ⟨by simp [hn], rfl, rfl, fun _ _ => rfl, fun i j _ h => (by rw [f] at h; cases h), fun _ => undef, ?_, fun i _ h => (by rw [f] at h; cases h)⟩
    exact hcong _ _ _ _ (fun i _ => (f i).symm) h0
end Go.Proofs.YtpajdmhgonmgoaaDoor

namespace Go.Proofs.YtpajdmhgonmgoaaDoor
open Go.RowKit
set_option linter.unusedVariables false
set_option linter.unusedSimpArgs false
theorem fold_size (off : Nat) : ∀ (l : List (Value × Nat)) (Z : Array Value), (l.foldl (fun cs (c : Value × Nat) => cs.setIfInBounds (off + c.2) c.1) Z).size = Z.size
  | [], _ => rfl
  | c :: l, Z => by rw [List.foldl_cons, fold_size off l, Array.size_setIfInBounds]
theorem fill_cons {place : Nat → Option (Nat × Nat)} {cells : Array Value} {i off size : Nat} {v : Value} {rest : List (Nat × Value)} (hp : place i = some (off, size)) (hs : v.cells.size = size) (hl : off + size ≤ cells.size) :
    Instr.fill place cells ((i, v) :: rest) = Instr.fill place (v.cells.zipIdx.foldl (fun cs (c, j) => cs.setIfInBounds (off + j) c) cells) rest := by
  rw [Instr.fill, hp]
  dsimp only
  rw [if_neg]
  simp only [ne_eq, decide_not, Bool.or_eq_true, Bool.not_eq_true', decide_eq_false_iff_not, decide_eq_true_eq]
  omega
theorem pile_info : (match Tryd.prog.info? 60, Tryd.prog.underlying 60 with
  | some it, some (.struct fields) => (it.zero.map (·.cells.size), fields.toList.mapM (fun f => (Tryd.prog.info? f.type).map fun i => (f.offset, i.size)))
  | _, _ => (none, none)) = (some 114, some [(0, 112), (112, 1), (113, 1)]) := by kernel_rfl
/-- A pile that lies there. -/
def PileAt (w : World) (B : Nat) (v : Value) : Prop := ∃ pb C a n c, v = .pointer (some ⟨pb, 0, none⟩) ∧ w.heap[pb]? = some (.cells C 60 (0, 0)) ∧ C[112]? = some (.slice a n c) ∧ B ≤ pb
theorem PileAt.next {w w' : World} {B : Nat} {v : Value} (h : PileAt w B v) (b : Below w.heap.size w w') : PileAt w' B v := by
  obtain ⟨pb, C, a, n, c, h1, h2, h3, h4⟩ := h
  exact ⟨pb, C, a, n, c, h1, (b.block pb (ltS_of_block h2)).trans h2, h3, h4⟩
structure PoR (pvl : List (Option Value)) (W : World) (P : Nat) (L : Nat → Bool) (vals : Nat → Value) (w : World) : Prop where
  pure : ∀ i u, pvl[i]? = some (some u) → L i = true → vals i = u
  bl : Below W.heap.size W w
  v2 : L 2 = true → ∃ F : Nat → Int, vals 2 = .agg (arrS 112 fun k => .int .i64 (F k))
  v4 : L 4 = true → ∃ g q, vals 4 = .slice (some ⟨g, 0, none⟩) P q
  v7 : L 7 = true → ∃ g, vals 7 = .slice (some ⟨g, 0, none⟩) P P
  v8 : L 8 = true → ∃ (C : Array Value) (a : Option Addr) (n c : Nat), vals 8 = .agg C ∧ C[112]? = some (.slice a n c)
  v9 : L 9 = true → PileAt w W.heap.size (vals 9)
  v10 : L 10 = true → PileAt w W.heap.size (vals 10)
theorem PoR.cong {pvl : List (Option Value)} {W : World} {P : Nat} {L L' : Nat → Bool} {vals : Nat → Value} {w : World} (hl : pvl.length = 11) (e : ∀ i, i < 11 → L i = L' i) (h : PoR pvl W P L vals w) : PoR pvl W P L' vals w :=
  ⟨fun i u hi hL => h.pure i u hi (by rw [e i (by have := (List.getElem?_eq_some_iff.1 hi).1; omega)]; exact hL), h.bl, fun q => h.v2 (by rw [e 2 (by omega)]; exact q), fun q => h.v4 (by rw [e 4 (by omega)]; exact q), fun q => h.v7 (by rw [e 7 (by omega)]; exact q), fun q => h.v8 (by rw [e 8 (by omega)]; exact q), fun q => h.v9 (by rw [e 9 (by omega)]; exact q), fun q => h.v10 (by rw [e 10 (by omega)]; exact q)⟩
theorem PoR.start (pvl : List (Option Value)) (W : World) (P : Nat) (vals : Nat → Value) : PoR pvl W P (fun _ => false) vals W :=
  ⟨fun i u _ h => (by cases h), Below.refl _ _, fun h => (by cases h), fun h => (by cases h), fun h => (by cases h), fun h => (by cases h), fun h => (by cases h), fun h => (by cases h)⟩
theorem PoR.step {pvl : List (Option Value)} {W : World} {P : Nat} {L : Nat → Bool} {vals : Nat → Value} {w w' : World} (h : PoR pvl W P L vals w) (b : Below w.heap.size w w') (i : Nat) (v : Value)
    (h0 : ∀ u, pvl[i]? = some (some u) → v = u) (h2 : i = 2 → ∃ F : Nat → Int, v = .agg (arrS 112 fun k => .int .i64 (F k))) (h4 : i = 4 → ∃ g q, v = .slice (some ⟨g, 0, none⟩) P q) (h7 : i = 7 → ∃ g, v = .slice (some ⟨g, 0, none⟩) P P)
    (h8 : i = 8 → ∃ (C : Array Value) (a : Option Addr) (n c : Nat), v = .agg C ∧ C[112]? = some (.slice a n c)) (h9 : i = 9 → PileAt w' W.heap.size v) (h10 : i = 10 → PileAt w' W.heap.size v) :
    PoR pvl W P (fun j => if j = i then true else L j) (fun j => if j = i then v else vals j) w' := by
  refine ⟨fun j u hj hL => ?_, h.bl.trans (b.mono h.bl.size), fun q => ?_, fun q => ?_, fun q => ?_, fun q => ?_, fun q => ?_, fun q => ?_⟩
  · by_cases e : j = i
    · rw [if_pos e]; rw [e] at hj; exact h0 u hj
    · rw [if_neg e] at hL ⊢; exact h.pure j u hj hL
  · by_cases e : 2 = i
    · rw [if_pos e]; exact h2 e.symm
    · rw [if_neg e] at q ⊢; exact h.v2 q
  · by_cases e : 4 = i
    · rw [if_pos e]; exact h4 e.symm
    · rw [if_neg e] at q ⊢; exact h.v4 q
  · by_cases e : 7 = i
    · rw [if_pos e]; exact h7 e.symm
    · rw [if_neg e] at q ⊢; exact h.v7 q
  · by_cases e : 8 = i
    · rw [if_pos e]; exact h8 e.symm
    · rw [if_neg e] at q ⊢; exact h.v8 q
  · by_cases e : 9 = i
    · rw [if_pos e]; exact h9 e.symm
    · rw [if_neg e] at q ⊢; exact (h.v9 q).next b
  · by_cases e : 10 = i
    · rw [if_pos e]; exact h10 e.symm
    · rw [if_neg e] at q ⊢; exact (h.v10 q).next b
def depsB : List (Nat × Nat) := [(2, 0), (2, 1), (4, 3), (6, 5), (7, 6), (8, 2), (8, 4), (8, 7), (9, 8), (10, 9)]
end Go.Proofs.YtpajdmhgonmgoaaDoor

namespace Go.Proofs.YtpajdmhgonmgoaaDoor
open Go.RowKit
set_option linter.unusedVariables false
set_option linter.unusedSimpArgs false
end Go.Proofs.YtpajdmhgonmgoaaDoor

namespace Go.Proofs.YtpajdmhgonmgoaaDoor
open Go.RowKit
set_option linter.unusedVariables false
set_option linter.unusedSimpArgs false
end Go.Proofs.YtpajdmhgonmgoaaDoor

namespace Go.Proofs.YtpajdmhgonmgoaaDoor
open Go.RowKit
set_option linter.unusedVariables false
set_option linter.unusedSimpArgs false
/-- A ground behind some edges. -/
def gdP (n s : Nat) (es : List EdS) (j : Nat) : Int :=
  if j = 0 then (n : Int) else if j = 1 then (s : Int) else if j < 12 then dgL es (j - 2) else if (j - 12) % 10 = s then 0 else btL es ((j - 12) / 10) ((j - 12) % 10)
/-- One end of an edge laid. -/
def jnF (s : Nat) (F : Nat → Int) (a b : Nat) (t : Int) : Nat → Int :=
  let F1 := upI F (2 + a) (F (2 + a) + t)
  if b = s then F1 else upI F1 (12 + a * 10 + b) (F (12 + a * 10 + b) + t)
theorem bt_app (es : List EdS) (e : EdS) (k j : Nat) : btL (es ++ [e]) k j = btL es k j + btE e k j := by simp [btL]
theorem dg_app (es : List EdS) (e : EdS) (k : Nat) : dgL (es ++ [e]) k = dgL es k + dgE e k := by simp [dgL]
theorem jn_at {s a b : Nat} {t : Int} (F : Nat → Int) (ha : a < 10) (j : Nat) : jnF s F a b t j = F j + (if j = 2 + a then t else 0) + (if b ≠ s ∧ j = 12 + a * 10 + b then t else 0) := by
  unfold jnF upI
  by_cases hb : b = s
  · simp only [if_pos hb]
    rw [if_neg (c := b ≠ s ∧ _) (by omega)]
    by_cases h : j = 2 + a
    · subst h; rw [if_pos rfl, if_pos rfl]; omega
    · rw [if_neg h, if_neg h]; omega
  · simp only [if_neg hb]
    by_cases h : j = 12 + a * 10 + b
    · subst h
      rw [if_pos rfl, if_neg (by omega), if_pos ⟨hb, rfl⟩]; omega
    · rw [if_neg h, if_neg (c := b ≠ s ∧ _) (by omega)]
      by_cases h2 : j = 2 + a
      · subst h2; rw [if_pos rfl, if_pos rfl]; omega
      · rw [if_neg h2, if_neg h2]; omega
/-- Both ends laid. -/
theorem jn_both {n s a b : Nat} {t : Int} (es : List EdS) (ha : a < 10) (hb : b < 10) (hab : a ≠ b) {j : Nat} (hj : j < 112) : jnF s (jnF s (gdP n s es) a b t) b a t j = gdP n s (es ++ [⟨a, b, t⟩]) j := by
  have key : jnF s (jnF s (gdP n s es) a b t) b a t j = gdP n s es j + (if j = 2 + a then t else 0) + (if j = 2 + b then t else 0) + (if b ≠ s ∧ j = 12 + a * 10 + b then t else 0) + (if a ≠ s ∧ j = 12 + b * 10 + a then t else 0) := by
    rw [jn_at _ hb, jn_at _ ha]; omega
  rw [key]
  unfold gdP
  by_cases j0 : j = 0
  · subst j0
    rw [if_pos rfl, if_pos rfl, if_neg (by omega), if_neg (by omega), if_neg (by omega), if_neg (by omega)]; omega
  · by_cases j1 : j = 1
    · subst j1
      rw [if_neg (by omega), if_pos rfl, if_neg (by omega), if_pos rfl, if_neg (by omega), if_neg (by omega), if_neg (by omega), if_neg (by omega)]; omega
    · rw [if_neg j0, if_neg j1, if_neg j0, if_neg j1]
      by_cases j2 : j < 12
      · rw [if_pos j2, if_pos j2, dg_app, if_neg (c := b ≠ s ∧ _) (by omega), if_neg (c := a ≠ s ∧ _) (by omega)]
        unfold dgE
        by_cases q1 : j = 2 + a
        · rw [if_pos q1, if_neg (by omega), if_pos (by show a = j - 2 ∨ b = j - 2; omega)]; show _ = _ + t; omega
        · by_cases q2 : j = 2 + b
          · rw [if_neg q1, if_pos q2, if_pos (by show a = j - 2 ∨ b = j - 2; omega)]; show _ = _ + t; omega
          · rw [if_neg q1, if_neg q2, if_neg (by show ¬ (a = j - 2 ∨ b = j - 2); omega)]; omega
      · rw [if_neg j2, if_neg j2, if_neg (c := j = 2 + a) (by omega), if_neg (c := j = 2 + b) (by omega)]
        obtain ⟨p, q, hp, hq, rfl⟩ : ∃ p q, p < 10 ∧ q < 10 ∧ j = 12 + p * 10 + q := ⟨(j - 12) / 10, (j - 12) % 10, by omega, by omega, by omega⟩
        have e1 : (12 + p * 10 + q - 12) / 10 = p := by omega
        have e2 : (12 + p * 10 + q - 12) % 10 = q := by omega
        rw [e1, e2]
        by_cases qs : q = s
        · rw [if_pos qs, if_pos qs, if_neg (by omega), if_neg (by omega)]; omega
        · rw [if_neg qs, if_neg qs, bt_app]
          unfold btE
          by_cases c1 : p = a ∧ q = b
          · rw [if_pos (by omega), if_neg (by omega), if_pos (by show (a = p ∧ b = q) ∨ (a = q ∧ b = p); omega)]; show _ = _ + t; omega
          · by_cases c2 : p = b ∧ q = a
            · rw [if_neg (by omega), if_pos (by omega), if_pos (by show (a = p ∧ b = q) ∨ (a = q ∧ b = p); omega)]; show _ = _ + t; omega
            · rw [if_neg (by omega), if_neg (by omega), if_neg (by show ¬ ((a = p ∧ b = q) ∨ (a = q ∧ b = p)); omega)]; omega
theorem gdP_nil (n s : Nat) (j : Nat) : gdP n s [] j = if j = 0 then (n : Int) else if j = 1 then (s : Int) else 0 := by
  unfold gdP
  repeat' split
  all_goals rfl
theorem bt_far {n : Nat} : ∀ {es : List EdS}, (∀ e ∈ es, okE n e) → ∀ {p q : Nat}, n ≤ p ∨ n ≤ q → btL es p q = 0
  | [], _, _, _, _ => rfl
  | e :: es, h, p, q, hq => by
    rw [bt_cons, bt_far (n := n) (es := es) (fun x hx => h x (List.mem_cons_of_mem _ hx)) hq]
    have b := h e (List.mem_cons_self ..)
    unfold okE at b
    unfold btE
    rw [if_neg (by omega)]; rfl
/-- The ground behind all edges is the graph's. -/
theorem gdP_all {n s : Nat} {es : List EdS} (h : ∀ e ∈ es, okE n e) (j : Nat) : gdP n s es j = gdF n s (btL es) j := by
  unfold gdP gdF
  by_cases j0 : j = 0
  · rw [if_pos j0, if_pos j0]
  · rw [if_neg j0, if_neg j0]
    by_cases j1 : j = 1
    · rw [if_pos j1, if_pos j1]
    · rw [if_neg j1, if_neg j1]
      by_cases j2 : j < 12
      · rw [if_pos j2, if_pos j2, dg_sum h]
      · rw [if_neg j2, if_neg j2]
        unfold gvS
        by_cases c : (j - 12) % 10 = s
        · rw [if_pos c, if_neg (by omega)]
        · rw [if_neg c]
          by_cases c2 : (j - 12) % 10 < n
          · rw [if_pos ⟨c2, c⟩]
          · rw [if_neg (by omega), bt_far h (Or.inr (by omega))]
theorem dg_size : ∀ {n : Nat} {es : List EdS}, (∀ e ∈ es, okE n e) → ∀ k, 0 ≤ dgL es k ∧ dgL es k ≤ 100 * es.length
  | _, [], _, _ => ⟨Int.le_refl _, Int.le_refl _⟩
  | n, e :: es, h, k => by
    obtain ⟨h1, h2⟩ := dg_size (n := n) (es := es) (fun x hx => h x (List.mem_cons_of_mem _ hx)) k
    have b := h e (List.mem_cons_self ..)
    unfold okE at b
    rw [dg_cons]
    unfold dgE
    simp only [List.length_cons]
    split <;> omega
theorem bt_size : ∀ {n : Nat} {es : List EdS}, (∀ e ∈ es, okE n e) → ∀ k j, 0 ≤ btL es k j ∧ btL es k j ≤ 100 * es.length
  | _, [], _, _, _ => ⟨Int.le_refl _, Int.le_refl _⟩
  | n, e :: es, h, k, j => by
    obtain ⟨h1, h2⟩ := bt_size (n := n) (es := es) (fun x hx => h x (List.mem_cons_of_mem _ hx)) k j
    have b := h e (List.mem_cons_self ..)
    unfold okE at b
    rw [bt_cons]
    unfold btE
    simp only [List.length_cons]
    split <;> omega
theorem gdP_size {n s : Nat} {es : List EdS} (hn : n ≤ 10) (hs : s ≤ 10) (hl : es.length ≤ 40) (h : ∀ e ∈ es, okE n e) (j : Nat) : 0 ≤ gdP n s es j ∧ gdP n s es j ≤ 4000 := by
  unfold gdP
  have h1 := dg_size h (j - 2)
  have h2 := bt_size h ((j - 12) / 10) ((j - 12) % 10)
  repeat' split
  all_goals omega
def JoinX (w : World) (gb : Nat) (F' : Nat → Int) (e : Ending) (w' : World) : Prop := e = .returned (.tuple #[]) ∧ GrI w' gb F' ∧ w.grownBy w' (some gb)
theorem wrap_small {x : Int} (h0 : 0 ≤ x) (h1 : x ≤ 100000) : wrap64 x = x := by
  unfold wrap64; omega
set_option maxRecDepth 100000 in
set_option maxHeartbeats 6400000 in
theorem joinX_any (gb a b s : Nat) (t : Int) (F : Nat → Int) (w : World) (hG : GrI w gb F) (ha : a < 10) (hb : b < 10) (hs : F 1 = (s : Int)) (hF : ∀ k, 0 ≤ F k ∧ F k ≤ 50000) (ht : 0 ≤ t ∧ t ≤ 100) :
    Calls Tryd.prog 48 #[.pointer (some ⟨gb, 0, none⟩), .int .i64 (a : Int), .int .i64 (b : Int), .int .i64 t] w (JoinX w gb (jnF s F a b t)) := by
  have HG := hide' hG
  have c0 := hG.cell (k := 2 + a) (by omega)
  have f0 := frozen_of_row w gb (2 + a) _ _ hG
  have la : (a : Int) < 10 := by omega
  have lb : (b : Int) < 10 := by omega
  obtain ⟨z0, hz0⟩ : ∃ z0, F (2 + a) = z0 := ⟨_, rfl⟩
  have W0 : wrap64 (z0 + t) = z0 + t := by have := hF (2 + a); rw [hz0] at this; exact wrap_small (by omega) (by omega)
  obtain ⟨F1, hF1⟩ : ∃ F1, upI F (2 + a) (z0 + t) = F1 := ⟨_, rfl⟩
  have eJ : jnF s F a b t = if b = s then F1 else upI F1 (12 + a * 10 + b) (F1 (12 + a * 10 + b) + t) := by
    unfold jnF
    simp only [hz0, hF1]
    have : F1 (12 + a * 10 + b) = F (12 + a * 10 + b) := by rw [← hF1]; unfold upI; rw [if_neg (by omega)]
    rw [this]
  have F11 : F1 1 = (s : Int) := by rw [← hF1]; unfold upI; rw [if_neg (by omega)]; exact hs
  have F12 : 0 ≤ F1 (12 + a * 10 + b) ∧ F1 (12 + a * 10 + b) ≤ 50000 := by rw [← hF1]; unfold upI; rw [if_neg (by omega)]; exact hF _
  rw [hz0] at c0
  have HF1 := hide' hF1
  have EJ := hide' eJ
  clear hG hz0 hF hs hF1 eJ
  go_enter Tryd.func48, Tryd.ntmps48
  go_upto_region 0 with fail
  go_region
  rw [W0]
  obtain ⟨X, hX⟩ : ∃ X, (w.setCell ⟨gb, 2 + a, none⟩ (.int .i64 (z0 + t))).drew = X := ⟨_, rfl⟩
  have hF1 : GrI X gb F1 := by rw [← hX, ← HF1.out]; exact HG.out.set _
  have GX := hide' (show w.grownBy X (some gb) by rw [← hX]; exact grownR_trans (grownBy_setR w gb (2 + a) _) (grownR_drew _ _))
  rw [hX]
  clear hX c0 f0 W0
  have c1 := hF1.cell (k := 1) (by omega)
  rw [F11] at c1
  have c2 := hF1.cell (k := 12 + a * 10 + b) (by omega)
  have f2 := frozen_of_row X gb (12 + a * 10 + b) _ _ hF1
  obtain ⟨z2, hz2⟩ : ∃ z2, F1 (12 + a * 10 + b) = z2 := ⟨_, rfl⟩
  rw [hz2] at c2 F12
  have W2 : wrap64 (z2 + t) = z2 + t := wrap_small (by omega) (by omega)
  have HZ2 := hide' hz2
  have HX := hide' hF1
  clear hF1 hz2 F11 F12
  by_cases k : b = s
  · have e1 : ((b : Int) != (s : Int)) = false := by simp; omega
    have KK := hide' k
    clear k
    go_wp2
    go_end0
    refine ⟨rfl, ?_, GX.out⟩
    rw [EJ.out, if_pos KK.out]; exact HX.out
  · have e1 : ((b : Int) != (s : Int)) = true := by simp; omega
    have KK := hide' k
    clear k
    go_upto_region 2 with fail
    go_region
    rw [W2]
    go_wp2
    go_end0
    refine ⟨rfl, ?_, grownR_trans GX.out (grownR_trans (grownBy_setR X gb (12 + a * 10 + b) _) (grownR_drew _ _))⟩
    rw [EJ.out, if_neg KK.out, HZ2.out]; exact HX.out.set _
end Go.Proofs.YtpajdmhgonmgoaaDoor

namespace Go.Proofs.YtpajdmhgonmgoaaDoor
open Go.RowKit
set_option linter.unusedVariables false
set_option linter.unusedSimpArgs false
theorem ok_edS {P : Nat} {x : EgT} (h : ¬ badE (P : Int) x) : okE P (edS x) := by
  unfold badE at h
  unfold okE edS
  simp only []
  omega
theorem OkG.okE' {P : Nat} {xs : List EgT} (h : OkG P xs) : ∀ e ∈ xs.map edS, Go.Proofs.YtpajdmhgonmgoaaDoor.okE P e := fun e he => by
  obtain ⟨x, hx, rfl⟩ := List.mem_map.1 he
  obtain ⟨j, hj, rfl⟩ := List.mem_iff_getElem.1 hx
  have := h.ok j hj
  rw [eg_at hj] at this
  exact ok_edS this
theorem OkG.okE {P : Nat} {xs : List EgT} (h : OkG P xs) (i : Nat) : ∀ e ∈ (xs.take i).map edS, Go.Proofs.YtpajdmhgonmgoaaDoor.okE P e := fun e he => by
  obtain ⟨x, hx, rfl⟩ := List.mem_map.1 he
  exact h.okE' _ (List.mem_map.2 ⟨x, List.mem_of_mem_take hx, rfl⟩)
/-- How many edges two places have. -/
def btX (xs : List EgT) : Nat → Nat → Int := btL (xs.map edS)
def LayX (w : World) (P s : Nat) (xs : List EgT) (e : Ending) (w' : World) : Prop := e = .returned (.agg (arrS 112 fun k => .int .i64 (gdF P s (btX xs) k))) ∧ Below w.heap.size w w'
set_option maxRecDepth 100000 in
set_option maxHeartbeats 6400000 in
theorem layX_any (P : Nat) (xs : List EgT) (ea : Option Addr) (n c : Nat) (s : Nat) (w : World) (hE : ArgE w xs ea n c) (hO : OkG P xs) (hs : s < P) :
    Calls Tryd.prog 32 #[.agg #[.int .i64 (P : Int), .slice ea n c], .int .i64 (s : Int)] w (LayX w P s xs) := by
  obtain ⟨w1, hw1⟩ : ∃ w1, w.alloc (.cells #[.int .i64 (P : Int), .slice ea n c] 24) = w1 := ⟨_, rfl⟩
  have HW1 := hide' hw1
  have B1 := hide' (show Below w.heap.size w w1 by rw [← hw1]; exact (Below.refl _ _).alloc (Nat.le_refl _) _)
  have R1 := hide' (show w1.heap[w.heap.size]? = some (.cells #[.int .i64 (P : Int), .slice ea n c] 24 (0, 0)) by rw [← hw1]; exact heap_alloc_new _ _)
  have HE := hide' (fun (V : World) (h : Below w.heap.size w V) => hE.below h)
  have HL := hide' hE.len
  have OK := hide' hO
  have n4 : n ≤ 40 := by rw [hE.len]; exact hO.n4
  have HS := hide' hs
  clear hw1 hE hO hs
  have zv := zero_groundS
  obtain ⟨Z, hZ⟩ : ∃ Z, (arrS 112 fun _ => Value.int .i64 0) = Z := ⟨_, rfl⟩
  rw [hZ] at zv
  go_enter Tryd.func32, Tryd.ntmps32
  go_upto_region 1 with fail
  rw [HW1.out]
  obtain ⟨rb, hrb⟩ : ∃ rb, w.heap.size + 1 = rb := ⟨_, rfl⟩
  obtain ⟨w2, hw2⟩ : ∃ w2, w1.alloc (.cells Z 58) = w2 := ⟨_, rfl⟩
  have S1 : w1.heap.size = rb := by have := HW1.out; rw [← this]; simp; exact hrb
  have RB := hide' (show w2.heap[rb]? = some (.cells Z 58 (0, 0)) by rw [← hw2, ← S1]; exact heap_alloc_new _ _)
  have B2 := hide' (show Below w.heap.size w w2 by rw [← hw2]; exact B1.out.alloc B1.out.size _)
  have R2 := hide' (show w2.heap[w.heap.size]? = some (.cells #[.int .i64 (P : Int), .slice ea n c] 24 (0, 0)) by rw [← hw2]; exact (heap_alloc_old _ _ (ltS_of_block R1.out)).trans R1.out)
  have LR := hide' (show w.heap.size < rb by omega)
  rw [hrb, hw2]
  clear hw2 S1 hrb
  have y0 := cell_of_row w2 _ 0 _ _ _ R2.out
  simp at y0
  obtain ⟨F0, eF0, hF0⟩ : ∃ F0 : Nat → Int, F0 = gdP P s [] ∧ ((arrS 112 fun _ => Value.int .i64 0).setIfInBounds 0 (.int .i64 (P : Int))).setIfInBounds 1 (.int .i64 (s : Int)) = arrS 112 fun k => .int .i64 (F0 k) := ⟨gdP P s [], rfl, by
    rw [show (arrS 112 fun _ => Value.int .i64 0) = arrS 112 fun k => .int .i64 ((fun _ => (0 : Int)) k) from rfl, set_arrI, set_arrI]
    exact arrS_ext fun k _ => by
      rw [gdP_nil]; unfold upI
      by_cases k1 : k = 1
      · subst k1; simp
      · by_cases k0 : k = 0
        · subst k0; simp
        · simp [k0, k1]⟩
  rw [hZ] at hF0
  obtain ⟨C, hC⟩ : ∃ C, (Z.setIfInBounds 0 (.int .i64 (P : Int))).setIfInBounds 1 (.int .i64 (s : Int)) = C := ⟨_, rfl⟩
  have HC := hide' (show C = arrS 112 fun k => .int .i64 (F0 k) by rw [← hC]; exact hF0)
  have G0 := heap_alloc_new w2 (.cells Z 58)
  have ZS : Z.size = 112 := by rw [← hZ, arrS_size]
  have CS := hide' (show C.size = 112 by rw [HC.out, arrS_size])
  have CA := hide' (show C.all (·.oneCell') = true by rw [HC.out]; exact arrS_all _ _)
  have HCC := hide' hC
  have zn : ¬ Z = #[] := fun e => by rw [e] at ZS; simp at ZS
  have EF0 := hide' eF0
  clear hF0 hZ hC eF0
  go_upto_region 2 with (refine wpList_store_row rfl 58 _ _ rfl w2.heap.size C rfl (by show Value.agg _ = _; rw [HCC.out]) 58 Z G0 (by rw [CS.out]; exact size_ground) (by rw [CS.out]; exact ZS) CA.out ?_)
  obtain ⟨gb, hgb⟩ : ∃ gb, w2.heap.size = gb := ⟨_, rfl⟩
  obtain ⟨w3, hw3⟩ : ∃ w3, (w2.alloc (.cells Z 58)).setRow gb C = w3 := ⟨_, rfl⟩
  rw [hgb] at G0
  have K3 := hide' (show GrI w3 gb F0 by rw [← hw3]; unfold GrI; rw [setRow_heap _ _ _ _ _ _ G0, HC.out])
  have B3 := hide' (show Below w.heap.size w w3 by rw [← hw3]; exact below_setRow (B2.out.alloc B2.out.size _) (by have := B2.out.size; omega) _)
  have LG := hide' (show rb < gb by rw [← hgb]; exact ltS_of_block RB.out)
  have R3 := hide' (show w3.heap[w.heap.size]? = some (.cells #[.int .i64 (P : Int), .slice ea n c] 24 (0, 0)) by
    rw [← hw3, heap_setRow_other _ _ _ _ (by have := LR.out; have := LG.out; omega)]
    exact (heap_alloc_old _ _ (ltS_of_block R2.out)).trans R2.out)
  have Q3 := hide' (show w3.heap[rb]? = some (.cells Z 58 (0, 0)) by
    rw [← hw3, heap_setRow_other _ _ _ _ (by have := LG.out; omega)]
    exact (heap_alloc_old _ _ (ltS_of_block RB.out)).trans RB.out)
  rw [hgb, hw3]
  clear hgb hw3 G0 y0
  have y1 := cell_of_row w3 _ 1 _ _ _ R3.out
  simp at y1
  go_wp2
  go_loopw [15] (fun iv V => ∃ (i : Nat), iv = .int .i64 (i : Int) ∧ i ≤ n ∧ Hid (GrI V gb (gdP P s ((xs.take i).map edS))) ∧ Hid (Below w.heap.size w V) ∧ Hid (V.heap[rb]? = some (.cells Z 58 (0, 0)))) (fun iv _ => n - (intOf iv).toNat)
  case atStart => exact ⟨0, rfl, by omega, hide' (by have := K3.out; rw [EF0.out] at this; exact this), B3, Q3⟩
  case round =>
    obtain ⟨i, rfl, hi, KFF, BW, QW⟩ := hrel
    obtain ⟨F, hF⟩ : ∃ F, gdP P s ((xs.take i).map edS) = F := ⟨_, rfl⟩
    have FB := hide' (show (∀ k, 0 ≤ F k ∧ F k ≤ 4000) ∧ F 1 = (s : Int) by
      rw [← hF]
      exact ⟨fun k => gdP_size OK.out.p2 (by have := HS.out; have := OK.out.p2; omega) (by have := OK.out.n4; simp; omega) (OK.out.okE i) k, rfl⟩)
    have KF := hide' (show GrI wr gb F by rw [← hF]; exact KFF.out)
    have HF := hide' hF
    clear KFF hF
    clear y1
    by_cases d : (i : Int) < (n : Int)
    · have hl : i < xs.length := by have := HL.out; omega
      obtain ⟨g, off, rfl, hg, c0, c1, c2⟩ := (HE.out wr BW.out).cells i hl
      obtain ⟨⟨p, q, t⟩, hx⟩ : ∃ x, xs[i] = x := ⟨_, rfl⟩
      rw [hx] at c0 c1 c2
      simp only at c0 c1 c2
      have b1 := OK.out.ok i hl
      have HX := hide' hx
      have b2 := OK.out.p2
      rw [eg_at hl, hx] at b1
      unfold badE at b1
      simp only at b1
      obtain ⟨pa, rfl⟩ := Int.eq_ofNat_of_zero_le (show 0 ≤ p by omega)
      obtain ⟨qa, rfl⟩ := Int.eq_ofNat_of_zero_le (show 0 ≤ q by omega)
      have LP := hide' (show pa < 10 ∧ qa < 10 by omega)
      have LT := hide' (show 0 ≤ t ∧ t ≤ 100 by omega)
      have LN := hide' (show pa ≠ qa by omega)
      obtain ⟨eb, heb⟩ : ∃ eb, wr.heap.size = eb := ⟨_, rfl⟩
      obtain ⟨w4, hw4⟩ : ∃ w4, wr.alloc (.cells #[.int .i64 (pa : Int), .int .i64 (qa : Int), .int .i64 t] 46) = w4 := ⟨_, rfl⟩
      have E4 := hide' (show w4.heap[eb]? = some (.cells #[.int .i64 (pa : Int), .int .i64 (qa : Int), .int .i64 t] 46 (0, 0)) by rw [← hw4, ← heb]; exact heap_alloc_new _ _)
      have K4 := hide' (show GrI w4 gb F by rw [← hw4]; exact (heap_alloc_old _ _ (ltS_of_block KF.out)).trans KF.out)
      have B4 := hide' (show Below w.heap.size w w4 by rw [← hw4]; exact BW.out.alloc BW.out.size _)
      have Q4 := hide' (show w4.heap[rb]? = some (.cells Z 58 (0, 0)) by rw [← hw4]; exact (heap_alloc_old _ _ (ltS_of_block QW.out)).trans QW.out)
      have LE := hide' (show gb < eb by rw [← heb]; exact ltS_of_block KF.out)
      have WG := hide' (show w.heap.size ≤ gb by have := LG.out; have := LR.out; omega)
      have HEB := hide' heb
      have HW4 := hide' hw4
      clear hx b1 b2 heb hw4
      go_upto_region 5 with fail
      rw [HEB.out, HW4.out]
      clear c0 c1 c2
      have y0 := cell_of_row w4 eb 0 _ _ _ E4.out
      have y1 := cell_of_row w4 eb 1 _ _ _ E4.out
      have y2 := cell_of_row w4 eb 2 _ _ _ E4.out
      simp at y0 y1 y2
      go_wp2_with fail
      refine (joinX_any gb pa qa s t F w4 K4.out LP.out.1 LP.out.2 FB.out.2 (fun k => ⟨(FB.out.1 k).1, by have := (FB.out.1 k).2; omega⟩) LT.out).mono ?_
      rintro e w5 ⟨rfl, k5, g5⟩
      obtain ⟨F1, hF1⟩ : ∃ F1, jnF s F pa qa t = F1 := ⟨_, rfl⟩
      rw [hF1] at k5
      have FB1 := hide' (show (∀ k, 0 ≤ F1 k ∧ F1 k ≤ 50000) ∧ F1 1 = (s : Int) by
        rw [← hF1]
        refine ⟨fun k => ?_, ?_⟩
        · rw [jn_at _ LP.out.1]
          have h1 := FB.out.1 k
          have h2 := LT.out
          constructor <;> (repeat' split) <;> omega
        · rw [jn_at _ LP.out.1, if_neg (by omega), if_neg (by omega)]
          have := FB.out.2; omega)
      have HF1 := hide' hF1
      clear hF1
      have K5 := hide' k5
      have B5 := hide' (B4.out.grown g5 B4.out.size (fun k hk => by have := WG.out; simp at hk; omega))
      have E5 := hide' ((g5.block eb (ltS_of_block E4.out) (by have := LE.out; simp; omega)).trans E4.out)
      have Q5 := hide' ((g5.block rb (ltS_of_block Q4.out) (by have := LG.out; simp; omega)).trans Q4.out)
      clear y0 y1 y2 k5 g5
      have y0 := cell_of_row w5 eb 0 _ _ _ E5.out
      have y1 := cell_of_row w5 eb 1 _ _ _ E5.out
      have y2 := cell_of_row w5 eb 2 _ _ _ E5.out
      simp at y0 y1 y2
      go_wp2_with fail
      refine (joinX_any gb qa pa s t F1 w5 K5.out LP.out.2 LP.out.1 FB1.out.2 FB1.out.1 LT.out).mono ?_
      rintro e w6 ⟨rfl, k6, g6⟩
      have K6 := hide' (show GrI w6 gb (gdP P s ((xs.take (i + 1)).map edS)) by
        unfold GrI
        rw [k6]
        congr 2
        refine arrS_ext fun k hk => ?_
        rw [← HF1.out, ← HF.out, jn_both _ LP.out.1 LP.out.2 LN.out hk, List.take_succ_eq_append_getElem hl, HX.out, List.map_append]
        rfl)
      have B6 := hide' (B5.out.grown g6 B5.out.size (fun k hk => by have := WG.out; simp at hk; omega))
      have Q6 := hide' ((g6.block rb (ltS_of_block Q5.out) (by have := LG.out; simp; omega)).trans Q5.out)
      clear y0 y1 y2 k6 g6
      go_wp2
      exact ⟨⟨i + 1, by go_num, by omega, K6, B6, Q6⟩, by simp [intOf]; omega⟩
    · obtain rfl : i = n := by omega
      obtain ⟨D, hD⟩ : ∃ D, (arrS 112 fun k => Value.int .i64 (F k)) = D := ⟨_, rfl⟩
      have DS := hide' (show D.size = 112 by rw [← hD, arrS_size])
      have DA := hide' (show D.all (·.oneCell') = true by rw [← hD]; exact arrS_all _ _)
      have GD : wr.heap[gb]? = some (.cells D 58 (0, 0)) := by rw [← hD]; exact KF.out
      have QD := QW.out
      have HD := hide' hD
      have WR := hide' (show w.heap.size ≤ rb by have := LR.out; omega)
      clear hD
      go_wp2_with (first | (refine wpList_load_row rfl 58 _ rfl gb rfl 58 D (0, 0) _ GD Tryd.underlying58 rfl (by rw [DS.out]; exact size_ground) ?_) | (refine wpList_store_row rfl 58 _ _ rfl rb D rfl rfl 58 Z QD (by rw [DS.out]; exact size_ground) (by rw [DS.out]; exact ZS) DA.out ?_))
      refine bodyPost_ret (v := .agg D) (results_cell_row Tryd.results32 _ _ rb 58 _ (0, 0) _ rfl (setRow_heap _ _ _ _ _ _ QD) Tryd.underlying58 rfl (by rw [DS.out]; exact size_ground)) rfl ?_
      refine ⟨?_, below_setRow BW.out WR.out _⟩
      have ex : xs.take i = xs := List.take_of_length_le (by have := HL.out; omega)
      rw [← HD.out, ← HF.out, ex]
      congr 2
      exact arrS_ext fun k _ => by rw [gdP_all (OK.out.okE')]; rfl
end Go.Proofs.YtpajdmhgonmgoaaDoor

