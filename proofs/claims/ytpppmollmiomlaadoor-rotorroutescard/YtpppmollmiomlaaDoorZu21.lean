/-
  What the last text of this claim leans on, part 21: Rwc.
-/
import Derived.Test.YtpppmollmiomlaaDoorZu20
namespace Go.Proofs.YtpppmollmiomlaaDoor
open Go.RowKit
set_option linter.unusedVariables false
set_option linter.unusedSimpArgs false
theorem lf_at {n s : Nat} {wy : Nat → Nat → Nat} {d sg : Nat → Nat} {c : Nat → Int} {u : Nat → Nat} (h : WkR n s wy d sg c u) {k : Nat} (hk : k < n) (ks : k ≠ s) : (lfR n s wy d sg c u k : Int) = chR n s wy d sg c u k := by
  have := h.has k hk ks
  unfold lfR
  rw [if_neg ks]
  omega
theorem tow_up (wy : Nat → Nat → Nat) (d sg u : Nat → Nat) (k : Nat) : towR wy d sg k (u k) = wy k (sgR d sg (upR u k) k) := by
  unfold towR sgR upR
  rw [if_pos rfl, show sg k + 1 + u k = sg k + (u k + 1) by omega]
theorem lf_sink {n s : Nat} {wy : Nat → Nat → Nat} {d sg : Nat → Nat} {c : Nat → Int} {u : Nat → Nat} (h : WkR n s wy d sg c u) {k : Nat} (hk : k < n) (ks : k ≠ s) (h0 : chR n s wy d sg c u k ≠ 0) (e : wy k (sgR d sg (upR u k) k) = s) (j : Nat) (hj : j < n) : upN (lfR n s wy d sg c u) k (lfR n s wy d sg c u k - 1) j = lfR n s wy d sg c (upR u k) j := by
  have g := h.has k hk ks
  unfold upN lfR
  by_cases q : j = s
  · rw [if_neg (by omega), if_pos q, if_pos q]
  · rw [if_neg q, if_neg q, if_neg ks, ch_upR hk ks, tow_up, e, if_neg (show ¬ s = j from fun r => q r.symm)]
    by_cases r : j = k
    · rw [if_pos r, if_pos r, r]; omega
    · rw [if_neg r, if_neg r]; omega
theorem lf_on {n s : Nat} {wy : Nat → Nat → Nat} {d sg : Nat → Nat} {c : Nat → Int} {u : Nat → Nat} (h : WkR n s wy d sg c u) {k y : Nat} (hk : k < n) (ks : k ≠ s) (h0 : chR n s wy d sg c u k ≠ 0) (e : wy k (sgR d sg (upR u k) k) = y) (hy : y < n) (ys : y ≠ s) (j : Nat) (hj : j < n) :
    upN (upN (lfR n s wy d sg c u) k (lfR n s wy d sg c u k - 1)) y (upN (lfR n s wy d sg c u) k (lfR n s wy d sg c u k - 1) y + 1) j = lfR n s wy d sg c (upR u k) j := by
  have g := h.has k hk ks
  have gj := h.has j hj
  have gy := h.has y hy ys
  unfold upN lfR
  by_cases q : j = s
  · rw [if_neg (by omega), if_neg (by omega), if_pos q, if_pos q]
  · have gj := gj q
    rw [if_neg q, if_neg q, if_neg ks, if_neg ys, ch_upR hk ks, tow_up, e]
    by_cases r : j = y
    · subst r
      rw [if_pos rfl, if_pos rfl]
      by_cases t : j = k
      · subst t; rw [if_pos rfl, if_pos rfl]; omega
      · rw [if_neg t, if_neg t]; omega
    · rw [if_neg r, if_neg (show ¬ y = j from fun t => r t.symm)]
      by_cases t : j = k
      · subst t; rw [if_pos rfl, if_pos rfl]; omega
      · rw [if_neg t, if_neg t]; omega
theorem own_KpB {w w' : World} {B : Nat} {lb n q sb tb : Nat} {l : List Value} {e : TypeId} (h : w.ownsRow B e 1 (.slice (some ⟨lb, 0, none⟩) n q) n l) (k : KpB sb tb w w') (n1 : lb ≠ sb) (n2 : lb ≠ tb) : w'.ownsRow B e 1 (.slice (some ⟨lb, 0, none⟩) n q) n l := by
  refine ⟨h.1, ?_⟩
  rcases h.2 with hn | ⟨g, cap, cur, e1, hb, hgg, rest⟩
  · exact Or.inl hn
  · refine Or.inr ⟨g, cap, cur, e1, hb, ?_, rest⟩
    simp at e1
    obtain ⟨rfl, rfl⟩ := e1
    rw [k.block lb (ltS_of_block hgg) n1 n2]
    exact hgg
theorem BdR.setL {V : World} {pb B P s wb sb sc tb : Nat} {v : Nat → Value} {L : Nat → List Int} {sg wt : List Int} (h : BdR V pb B P s wb sb sc tb v L sg wt) {lb : Nat} (i : Nat) (x : Value) (n1 : pb ≠ lb) (n2 : wb ≠ lb) (n3 : sb ≠ lb) (n4 : tb ≠ lb) (n5 : ∀ k, k < P → (v k).ownBlock ≠ some lb) : BdR (V.setCell ⟨lb, i, none⟩ x) pb B P s wb sb sc tb v L sg wt :=
  ⟨(Below.heap_setCell _ _ _ _ n1).trans h.box, h.wy.setOther _ n2 n5, h.sgs.kept (grownBy_setR V lb i x) (Or.inr (by simp [Value.ownBlock]; exact n3)), h.wts.kept (grownBy_setR V lb i x) (Or.inr (by simp [Value.ownBlock]; exact n4)), h.ne, h.ns, h.nt, h.base⟩
/-- A row apart from a board. -/
structure LfA (V : World) (B Q lb lc pb wb sb tb : Nat) (v : Nat → Value) (l : Nat → Nat) : Prop where
  own : V.ownsRow B 3 1 (.slice (some ⟨lb, 0, none⟩) Q lc) Q ((lsN Q l).map (Value.int .i64))
  n1 : pb ≠ lb
  n2 : wb ≠ lb
  n3 : sb ≠ lb
  n4 : tb ≠ lb
  n5 : ∀ k, k < Q → (v k).ownBlock ≠ some lb
theorem LfA.cell {V : World} {B Q lb lc pb wb sb tb : Nat} {v : Nat → Value} {l : Nat → Nat} (h : LfA V B Q lb lc pb wb sb tb v l) {k : Nat} (hk : k < Q) : V.cell? ⟨lb, k, none⟩ = some (.int .i64 (l k : Int)) := by
  rw [h.own.cellAt k (by omega), List.getElem?_map, lsN_get _ hk]
  rfl
theorem LfA.set {V : World} {B Q lb lc pb wb sb tb : Nat} {v : Nat → Value} {l : Nat → Nat} (h : LfA V B Q lb lc pb wb sb tb v l) (k x : Nat) : LfA (V.setCell ⟨lb, k, none⟩ (.int .i64 (x : Int))) B Q lb lc pb wb sb tb v (upN l k x) := by
  have st := (h.own.stored k (.int .i64 (x : Int))).1
  rw [lsN_set] at st
  exact ⟨st, h.n1, h.n2, h.n3, h.n4, h.n5⟩
theorem LfA.next {V V' : World} {B Q lb lc pb wb sb tb : Nat} {v : Nat → Value} {l : Nat → Nat} (h : LfA V B Q lb lc pb wb sb tb v l) (b : Below V.heap.size V V') : LfA V' B Q lb lc pb wb sb tb v l := ⟨own_next h.own b, h.n1, h.n2, h.n3, h.n4, h.n5⟩
theorem LfA.kp {V V' : World} {B Q lb lc pb wb sb tb : Nat} {v : Nat → Value} {l : Nat → Nat} (h : LfA V B Q lb lc pb wb sb tb v l) (k : KpB sb tb V V') : LfA V' B Q lb lc pb wb sb tb v l := ⟨own_KpB h.own k (Ne.symm h.n3) (Ne.symm h.n4), h.n1, h.n2, h.n3, h.n4, h.n5⟩
theorem LfA.ext {V : World} {B Q lb lc pb wb sb tb : Nat} {v : Nat → Value} {l l' : Nat → Nat} (h : LfA V B Q lb lc pb wb sb tb v l) (e : ∀ k, k < Q → l k = l' k) : LfA V B Q lb lc pb wb sb tb v l' := by
  refine ⟨?_, h.n1, h.n2, h.n3, h.n4, h.n5⟩
  rw [← lsN_ext e]
  exact h.own
/-- What a walk comes to. -/
def wkP (P s : Int) (xs : List EgT) (ss cs os : List Int) : Nat × (Nat → Nat) := walkU P.toNat s.toNat (wyF xs) (dgF xs) (sgN ss) (chN cs) os fun _ => 0
def WaG (P : Int) (xs : List EgT) (s : Int) (ss cs os : List Int) (f : Nat) : Prop := (¬ f = 0 ∧ RcG P xs s ss cs f) ∨ (RcG P xs s ss cs 0 ∧ f = (wkP P s xs ss cs os).1)
theorem WaG.only {P : Int} {xs : List EgT} {s : Int} {ss cs os : List Int} {f g : Nat} (h : WaG P xs s ss cs os f) (k : WaG P xs s ss cs os g) : f = g := by
  unfold WaG at h k
  rcases h with h | h <;> rcases k with k | k
  · exact h.2.only k.2
  · exact absurd (h.2.only k.1) h.1
  · exact absurd (k.2.only h.1) k.1
  · rw [h.2, k.2]
structure WalkOk (B : Nat) (w' : World) (P s : Int) (xs : List EgT) (ss cs os : List Int) (Q t : Nat) (u : Nat → Nat) (sb sc lb lc : Nat) : Prop where
  hP : P = (Q : Int)
  hs : s = (t : Int)
  ok : RtOk Q t xs (sgN ss)
  ls : ss = lsN Q (sgN ss)
  ch : ChOk Q t cs
  hu : u = (wkP P s xs ss cs os).2
  st : WSt Q t (wyF xs) (dgF xs) (sgN ss) (chN cs) u
  fs : B ≤ sb
  fl : B ≤ lb
  sgs : ArgP w' (lsN Q (sgR (dgF xs) (sgN ss) u)) (some ⟨sb, 0, none⟩) Q sc
  lft : ArgP w' (lsN Q (lfR Q t (wyF xs) (dgF xs) (sgN ss) (chN cs) u)) (some ⟨lb, 0, none⟩) Q lc
def WalkOut (w : World) (P : Int) (xs : List EgT) (s : Int) (ss cs os : List Int) (e : Ending) (w' : World) : Prop :=
  ∃ f, WaG P xs s ss cs os f ∧ Below w.heap.size w w' ∧ ((¬ f = 0 ∧ e = .returned (.tuple #[.slice none 0 0, .slice none 0 0, errOf f])) ∨ (f = 0 ∧ ∃ (Q t : Nat) (u : Nat → Nat) (sb sc lb lc : Nat), e = .returned (.tuple #[.slice (some ⟨sb, 0, none⟩) Q sc, .slice (some ⟨lb, 0, none⟩) Q lc, .nilIface]) ∧ WalkOk w.heap.size w' P s xs ss cs os Q t u sb sc lb lc))
theorem drop_at {os : List Int} {i : Nat} (h : i < os.length) : os.drop i = os[i] :: os.drop (i + 1) := List.drop_eq_getElem_cons h
set_option maxRecDepth 100000 in
set_option maxHeartbeats 12800000 in
theorem Walk_any (P : Int) (xs : List EgT) (ea : Option Addr) (n c : Nat) (s : Int) (ss : List Int) (sa : Option Addr) (sn sc' : Nat) (cs : List Int) (ca : Option Addr) (cn cc : Nat) (os : List Int) (oa : Option Addr) (on oc : Nat) (w : World) (hE : ArgE w xs ea n c) (hS : ArgP w ss sa sn sc') (hC : ArgP w cs ca cn cc) (hO : ArgP w os oa on oc) :
    Calls Tryd.prog 14 #[.agg #[.int .i64 P, .slice ea n c], .int .i64 s, .slice sa sn sc', .slice ca cn cc, .slice oa on oc] w (WalkOut w P xs s ss cs os) := by
  obtain ⟨w1, hw1⟩ : ∃ w1, w.alloc (.cells #[.int .i64 P, .slice ea n c] 24) = w1 := ⟨_, rfl⟩
  have HW1 := hide' hw1
  have B1 := hide' (show Below w.heap.size w w1 by rw [← hw1]; exact (Below.refl _ _).alloc (Nat.le_refl _) _)
  have R1 := hide' (show w1.heap[w.heap.size]? = some (.cells #[.int .i64 P, .slice ea n c] 24 (0, 0)) by rw [← hw1]; exact heap_alloc_new _ _)
  have CK := hide' (withChips_any P xs ea n c s ss sa sn sc' cs ca cn cc w1 (hE.below B1.out) (hS.below B1.out) (hC.below B1.out))
  have CLN := hide' (fun (V : World) (h : Below w.heap.size w V) => cloneR_any cs ca cn cc V (hC.below h))
  have HO := hide' (fun (V : World) (h : Below w.heap.size w V) => hO.below h)
  have CL := hide' hC.len
  have OL := hide' hO.len
  have IP := hide' (fun x V => isPlaceR_any P x ea n c V)
  have om := hO.max
  unfold maxLen at om
  have y0 := cell_of_row w1 _ 0 _ _ _ R1.out
  have y1 := cell_of_row w1 _ 1 _ _ _ R1.out
  simp at y0 y1
  have RW := hide' (fun (V : World) (h : Below w1.heap.size w1 V) => (h.block _ (ltS_of_block R1.out)).trans R1.out)
  clear hw1 hE hS hC hO
  go_enter Tryd.func14, Tryd.ntmps14
  go_upto_region 1 with fail
  rw [HW1.out]
  go_wp2_with fail
  refine CK.out.mono ?_
  rintro e w2 ⟨f, hf, b2, h⟩
  have HF := hide' hf
  have B2 := hide' b2
  have F2 := hide' (B1.out.trans (b2.mono B1.out.size))
  clear hf b2 y0 y1
  rcases h with ⟨h0, rfl⟩ | ⟨rfl, Q, t, pb, wb, sb, sc, tb, v, hQ, ht, hR, hs, rfl, hB⟩
  · have H0 := hide' h0
    have EF := hide' (errOf_not h0)
    rw [EF.out]
    clear h0
    go_wp2
    go_ret3
    exact ⟨f, Or.inl ⟨H0.out, HF.out⟩, F2.out, Or.inl ⟨H0.out, by rw [EF.out]; rfl⟩⟩
  · have HQ := hide' hQ
    have HT := hide' ht
    have HR := hide' hR
    have HS := hide' hs
    have HB := hide' hB
    have CO := hide' (show ChOk Q t cs from LaG.chips (by have := HF.out.good.2; rw [hQ, ht] at this; exact this) hR.sk)
    have CQ := hide' (show cn = Q by rw [CL.out]; exact CO.out.len)
    have q10 : Q ≤ 10 := hR.gr.p2
    have TOT := hide' (show smS Q (chN cs) ≤ 100000 from CO.out.all q10)
    have CC := hide' (CLN.out w2 F2.out (by rw [CQ.out]; exact hR.gr.p1) (by rw [CQ.out]; exact q10))
    have WK := hide' (show wkP P s xs ss cs os = walkU Q t (wyF xs) (dgF xs) (sgN ss) (chN cs) os fun _ => 0 by unfold wkP; rw [hQ, ht]; rfl)
    have SBT := hide' (show w1.heap.size ≤ sb ∧ w1.heap.size ≤ tb from ⟨(hB.sgs.lt sb rfl).1, (hB.wts.lt tb rfl).1⟩)
    clear hQ ht hR hs hB
    go_wp2_with fail
    refine CC.out.mono ?_
    rintro e w3 ⟨lb, lc, rfl, ho, b3, hg⟩
    rw [CQ.out] at ho ⊢
    have B3 := hide' (B2.out.trans (b3.mono B2.out.size))
    have K3 := hide' (show BdR w3 pb w1.heap.size Q t wb sb sc tb v (wyO xs) (lsN Q (sgR (dgF xs) (sgN ss) fun _ => 0)) (lsN Q fun _ => 0) by
      rw [show (sgR (dgF xs) (sgN ss) fun _ => 0) = sgN ss from funext fun k => by unfold sgR; rw [Nat.add_zero, HR.out.nrm]]
      exact HB.out.next b3)
    have L3 := hide' (show LfA w3 w1.heap.size Q lb lc pb wb sb tb v (lfR Q t (wyF xs) (dgF xs) (sgN ss) (chN cs) fun _ => 0) by
      have lts : ∀ {x m q : Nat} {l : List Value}, w2.ownsRow w1.heap.size 3 1 (.slice (some ⟨x, 0, none⟩) m q) m l → x ≠ lb := fun ho e => by
        have := (ho.lt _ rfl).2
        simp at this
        omega
      refine ⟨?_, fun e => ?_, fun e => ?_, lts HB.out.sgs, lts HB.out.wts, fun k hk e => ?_⟩
      · have e : cs = lsN Q (lfR Q t (wyF xs) (dgF xs) (sgN ss) (chN cs) fun _ => 0) := by
          apply List.ext_getElem
          · rw [lsN_len]; exact CO.out.len
          · intro i h1 h2
            have hi : i < Q := by rw [lsN_len] at h2; exact h2
            simp only [lsN, List.getElem_map, List.getElem_range]
            have lo := CO.out.lo i hi
            have g : chN cs i = cs[i] := at_getD h1
            have c0 : chR Q t (wyF xs) (dgF xs) (sgN ss) (chN cs) (fun _ => 0) i = chN cs i := by
              unfold chR
              rw [smS_congr (g := fun _ => 0) fun k _ => by split <;> rfl, smS_zero]
              dsimp only
              omega
            unfold lfR
            split
            · rename_i q; rw [← g, q, CO.out.zs]; rfl
            · rw [c0, ← g]; omega
        rw [← e]
        exact own_mono ho B2.out.size
      · have := ltS_of_block HB.out.box; omega
      · have := ltS_of_block HB.out.wy.blk; omega
      · have := ((HB.out.wy.own k hk).lt _ e).2; omega)
    have S3 := hide' (WSt.start (n := Q) (s := t) (wy := wyF xs) (d := dgF xs) (sg := sgN ss) (c := chN cs) CO.out.lo)
    have LLB := hide' (show w1.heap.size ≤ lb by have := B2.out.size; omega)
    have TU := hide' (fun (X : World) (u : Nat → Nat) (x : Nat) (hx : x < Q) (xs' : x ≠ t) (hX : BdR X pb w1.heap.size Q t wb sb sc tb v (wyO xs) (lsN Q (sgR (dgF xs) (sgN ss) u)) (lsN Q u)) (hw : WkR Q t (wyF xs) (dgF xs) (sgN ss) (chN cs) u) => show Calls Tryd.prog 27 #[.pointer (some ⟨pb, 0, none⟩), .int .i64 (x : Int)] X fun e w' => e = .returned (.int .i64 ((wyF xs x (sgR (dgF xs) (sgN ss) (upR u x) x) : Nat) : Int)) ∧ BdR w' pb w1.heap.size Q t wb sb sc tb v (wyO xs) (lsN Q (sgR (dgF xs) (sgN ss) (upR u x))) (lsN Q (upR u x)) ∧ KpB sb tb X w' by
      have lo : sgR (dgF xs) (sgN ss) u x < dgF xs x := by unfold sgR; exact Nat.mod_lt _ (HR.out.gr.pos HR.out.sk x hx xs')
      have := turn_any X pb w1.heap.size Q t wb sb sc tb v (wyO xs) (sgR (dgF xs) (sgN ss) u) u hX x hx (by rw [wyO_len]; exact lo) (by have := went_few HR.out CO.out.lo TOT.out hw x hx; omega) (by rw [wyO_len]; have := HR.out.gr.few x; omega)
      unfold TurnOut at this
      have eu : upN u x (u x + 1) = upR u x := funext fun j => by unfold upN upR; by_cases q : j = x <;> simp [q]
      rw [wyO_len, up_sg (P := Q), eu, wyO_at] at this
      refine this.mono fun e w' q => ?_
      obtain ⟨q1, q2, q3⟩ := q
      refine ⟨?_, q2, q3⟩
      rw [q1]
      congr 4
      have e : upN (sgR (dgF xs) (sgN ss) u) x ((sgR (dgF xs) (sgN ss) u x + 1) % dgF xs x) x = sgR (dgF xs) (sgN ss) (upR u x) x := by rw [up_sg (P := Q)]
      rw [← e]
      unfold upN
      rw [if_pos rfl])
    clear b3 ho hg
    go_wp2
    go_loopw [34] (fun iv wr => ∃ (i : Nat) (u : Nat → Nat), iv = .int .i64 (i : Int) ∧ i ≤ on ∧ Hid (walkU Q t (wyF xs) (dgF xs) (sgN ss) (chN cs) os (fun _ => 0) = walkU Q t (wyF xs) (dgF xs) (sgN ss) (chN cs) (os.drop i) u) ∧ Hid (WSt Q t (wyF xs) (dgF xs) (sgN ss) (chN cs) u) ∧ Hid (BdR wr pb w1.heap.size Q t wb sb sc tb v (wyO xs) (lsN Q (sgR (dgF xs) (sgN ss) u)) (lsN Q u)) ∧ Hid (LfA wr w1.heap.size Q lb lc pb wb sb tb v (lfR Q t (wyF xs) (dgF xs) (sgN ss) (chN cs) u)) ∧ Hid (Below w1.heap.size w1 wr)) (fun iv _ => on - (intOf iv).toNat)
    case atStart => exact ⟨0, _, rfl, by omega, hide' rfl, S3, K3, L3, B3⟩
    case round =>
      obtain ⟨i, u, rfl, hi, HU, SU, KU, LU, BU⟩ := hrel
      have FU := hide' (B1.out.trans (BU.out.mono B1.out.size))
      by_cases d : (i : Int) < (on : Int)
      · have hl : i < os.length := by have := OL.out; omega
        obtain ⟨g, off, rfl, -, c0⟩ := (HO.out wr FU.out).cells i hl
        obtain ⟨x, hx⟩ : ∃ x, os[i] = x := ⟨_, rfl⟩
        rw [hx] at c0
        have DR := hide' (show os.drop i = x :: os.drop (i + 1) by rw [← hx]; exact drop_at hl)
        have y0 := cell_of_row wr _ 0 _ _ _ (RW.out wr BU.out)
        have y1 := cell_of_row wr _ 1 _ _ _ (RW.out wr BU.out)
        simp at y0 y1
        have ERR := hide' (fun (f : Nat) (h : ¬ f = 0) (q : walkU Q t (wyF xs) (dgF xs) (sgN ss) (chN cs) (os.drop i) u = (f, u)) => show WaG P xs s ss cs os f from Or.inr ⟨HF.out, by rw [WK.out, HU.out, q]⟩)
        clear hx
        go_wp2_with fail
        refine (IP.out x _).mono ?_
        rintro e w4 ⟨rfl, b4⟩
        have B4 := hide' (BU.out.trans (b4.mono BU.out.size))
        have F4 := hide' (B1.out.trans (B4.out.mono B1.out.size))
        have K4 := hide' (KU.out.next b4)
        have L4 := hide' (LU.out.next b4)
        clear b4 y0 y1 c0
        by_cases k1 : 0 ≤ x ∧ x < P
        · rw [inB_yes k1.1 k1.2]
          by_cases k2 : x = s
          · have X := hide' (ERR.out 1 (by decide) (by rw [DR.out]; exact walk_off (Or.inr (Or.inr (by rw [k2]; exact HT.out)))))
            have e2 : (x == s) = true := by simpa using k2
            clear k1 k2
            go_wp2
            go_ret3
            exact ⟨1, X.out, F4.out, Or.inl ⟨by decide, rfl⟩⟩
          · have e2 : (x == s) = false := by simpa using k2
            obtain ⟨k, rfl⟩ := Int.eq_ofNat_of_zero_le k1.1
            have KQ := hide' (show k < Q by have := HQ.out; omega)
            have KT := hide' (show k ≠ t by have := HT.out; omega)
            have z1 := L4.out.cell KQ.out
            have lk : (k : Int) < (Q : Int) := by have := KQ.out; omega
            have LA := hide' (lf_at SU.out.wk KQ.out KT.out)
            obtain ⟨l, hl'⟩ : ∃ l, lfR Q t (wyF xs) (dgF xs) (sgN ss) (chN cs) u k = l := ⟨_, rfl⟩
            have HLK := hide' hl'
            rw [hl'] at z1 LA
            have l5 : l ≤ 100000 := by have := SU.out.le (by rw [CO.out.zs]; omega) KQ.out; have := LA.out; have := TOT.out; omega
            clear k1 k2 hl'
            by_cases k3 : l = 0
            · have X := hide' (ERR.out 7 (by decide) (by rw [DR.out]; exact walk_none KQ.out KT.out (by rw [← LA.out, k3]; rfl)))
              have e3 : ((l : Int) == 0) = true := by rw [k3]; rfl
              clear k3
              go_wp2
              go_ret3
              exact ⟨7, X.out, F4.out, Or.inl ⟨by decide, rfl⟩⟩
            · have e3 : ((l : Int) == 0) = false := by simp; omega
              have NZ := hide' (show chR Q t (wyF xs) (dgF xs) (sgN ss) (chN cs) u k ≠ 0 by rw [← LA.out]; omega)
              have GO := hide' (show walkU Q t (wyF xs) (dgF xs) (sgN ss) (chN cs) os (fun _ => 0) = walkU Q t (wyF xs) (dgF xs) (sgN ss) (chN cs) (os.drop (i + 1)) (upR u k) by rw [HU.out, DR.out]; exact walk_go KQ.out KT.out NZ.out)
              have SN := hide' (SU.out.step HR.out.gr.wy.inn (HR.out.gr.pos HR.out.sk) KQ.out KT.out NZ.out)
              obtain ⟨l1, hl1⟩ : ∃ l1 : Nat, l - 1 = l1 := ⟨_, rfl⟩
              have e4 : (l : Int) - 1 = (l1 : Int) := by omega
              have z2 := L4.out.own.frozenAt k
              obtain ⟨w5, hw5⟩ : ∃ w5, w4.setCell ⟨lb, k, none⟩ (.int .i64 (l1 : Int)) = w5 := ⟨_, rfl⟩
              have L5 := hide' (show LfA w5 w1.heap.size Q lb lc pb wb sb tb v (upN (lfR Q t (wyF xs) (dgF xs) (sgN ss) (chN cs) u) k (lfR Q t (wyF xs) (dgF xs) (sgN ss) (chN cs) u k - 1)) by rw [← hw5, HLK.out, hl1]; exact L4.out.set k l1)
              have K5 := hide' (show BdR w5 pb w1.heap.size Q t wb sb sc tb v (wyO xs) (lsN Q (sgR (dgF xs) (sgN ss) u)) (lsN Q u) by rw [← hw5]; exact K4.out.setL k _ L4.out.n1 L4.out.n2 L4.out.n3 L4.out.n4 L4.out.n5)
              have B5 := hide' (show Below w1.heap.size w1 w5 by rw [← hw5]; exact B4.out.setCell LLB.out _)
              have HW5 := hide' hw5
              clear k3 hl1 hw5
              go_upto_region 13 with fail
              rw [HW5.out]
              clear z1 z2 e4
              have TC := hide' (TU.out w5 u k KQ.out KT.out K5.out SU.out.wk)
              obtain ⟨y, hy⟩ : ∃ y, wyF xs k (sgR (dgF xs) (sgN ss) (upR u k) k) = y := ⟨_, rfl⟩
              have HY := hide' hy
              have YQ := hide' (show y < Q by
                rw [← hy]
                exact HR.out.gr.wy.inn k _ KQ.out (by unfold sgR; exact Nat.mod_lt _ (HR.out.gr.pos HR.out.sk k KQ.out KT.out)))
              rw [hy] at TC
              clear hy
              go_wp2_with fail
              refine TC.out.mono ?_
              rintro e w6 ⟨rfl, b6, k6⟩
              have K6 := hide' b6
              have L6 := hide' (L5.out.kp k6)
              have B6 := hide' (B5.out.trans (k6.below SBT.out.1 SBT.out.2 B5.out.size))
              clear b6 k6
              by_cases k5 : y = t
              · have e5 : ((y : Int) != (t : Int)) = false := by rw [k5]; simp
                have L7 := hide' (L6.out.ext (fun j hj => lf_sink SU.out.wk KQ.out KT.out NZ.out (by rw [HY.out]; exact k5) j hj))
                have HTs := HT.out
                clear k5
                have e6 : ((y : Int) != s) = false := by rw [HTs]; exact e5
                clear HTs e5
                go_wp2
                exact ⟨⟨i + 1, upR u k, by go_num, by omega, GO, SN, K6, L7, B6⟩, by simp [intOf]; omega⟩
              · have L7 := hide' (fun (V : World) (h : LfA V w1.heap.size Q lb lc pb wb sb tb v _) => LfA.ext h (fun j hj => lf_on SU.out.wk KQ.out KT.out NZ.out HY.out YQ.out k5 j hj))
                have e6 : ((y : Int) != s) = true := by have := HT.out; simp; omega
                have z1 := L6.out.cell YQ.out
                have z2 := L6.out.own.frozenAt y
                have ly : (y : Int) < (Q : Int) := by have := YQ.out; omega
                obtain ⟨m, hm⟩ : ∃ m, upN (lfR Q t (wyF xs) (dgF xs) (sgN ss) (chN cs) u) k (lfR Q t (wyF xs) (dgF xs) (sgN ss) (chN cs) u k - 1) y = m := ⟨_, rfl⟩
                have m5 : m ≤ 100000 := by
                  have a := SU.out.le (by rw [CO.out.zs]; omega) KQ.out
                  have b := SU.out.le (by rw [CO.out.zs]; omega) YQ.out
                  have c := LA.out
                  have d := lf_at SU.out.wk YQ.out k5
                  have e := TOT.out
                  have f := HLK.out
                  rw [← hm]
                  unfold upN
                  split <;> omega
                have L8 := hide' (show LfA (w6.setCell ⟨lb, y, none⟩ (.int .i64 ((m + 1 : Nat) : Int))) w1.heap.size Q lb lc pb wb sb tb v (lfR Q t (wyF xs) (dgF xs) (sgN ss) (chN cs) (upR u k)) by
                  refine L7.out _ ?_
                  have := L6.out.set y (m + 1)
                  rw [← hm] at this ⊢
                  exact this)
                rw [hm] at z1
                have K8 := hide' (K6.out.setL y (.int .i64 ((m + 1 : Nat) : Int)) L6.out.n1 L6.out.n2 L6.out.n3 L6.out.n4 L6.out.n5)
                have B8 := hide' (show Below w1.heap.size w1 (w6.setCell ⟨lb, y, none⟩ (.int .i64 ((m + 1 : Nat) : Int))) from B6.out.setCell LLB.out _)
                clear k5 hm L7
                have e7 : ((m : Int) + 1) = ((m + 1 : Nat) : Int) := by omega
                rw [← e7] at L8 K8 B8
                clear e7
                go_wp2
                exact ⟨⟨i + 1, upR u k, by go_num, by omega, GO, SN, K8, L8, B8⟩, by simp [intOf]; omega⟩
        · rw [inB_no k1]
          have X := hide' (ERR.out 1 (by decide) (by rw [DR.out]; exact walk_off (by have := HQ.out; omega)))
          clear k1
          go_wp2
          go_ret3
          exact ⟨1, X.out, F4.out, Or.inl ⟨by decide, rfl⟩⟩
      · obtain rfl : i = on := by omega
        have x2 := cell_of_row wr pb 2 _ _ _ KU.out.box
        simp at x2
        have EN := hide' (show wkP P s xs ss cs os = (0, u) by rw [WK.out, HU.out, OL.out, List.drop_length]; rfl)
        go_wp2
        go_ret3
        exact ⟨0, Or.inr ⟨HF.out, by rw [EN.out]⟩, FU.out, Or.inr ⟨rfl, Q, t, u, sb, sc, lb, lc, rfl, HQ.out, HT.out, HR.out, HS.out, CO.out, by rw [EN.out], SU.out, Nat.le_trans B1.out.size SBT.out.1, Nat.le_trans B1.out.size LLB.out, own_arg KU.out.sgs q10, own_arg LU.out.own q10⟩⟩
end Go.Proofs.YtpppmollmiomlaaDoor

