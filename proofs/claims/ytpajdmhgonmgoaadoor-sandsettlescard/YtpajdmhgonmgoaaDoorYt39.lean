/-
  What the last text of this claim leans on, part 39: Ta3, Ta4, Ta5.
-/
import Derived.Test.YtpajdmhgonmgoaaDoorYt38
import Derived.Test.YtpajdmhgonmgoaaDoorYt35
import Derived.Test.YtpajdmhgonmgoaaDoorYt22
namespace Go.Proofs.YtpajdmhgonmgoaaDoor
open Go.RowKit
set_option linter.unusedVariables false
set_option linter.unusedSimpArgs false
/-- What a sweep downwards has come to; did any topple? -/
structure SwD (P s : Nat) (b : Nat → Nat → Int) (c u0 : Nat → Int) (i : Nat) (u : Nat → Int) (fl : Bool) : Prop where
  pl : PlS P s b c u
  ge : ∀ j, j < P → u0 j ≤ u j
  far : ∀ j, j < i → u j = u0 j
  yes : fl = true → smS P u0 < smS P u
  no : fl = false → (∀ j, j < P → u j = u0 j) ∧ ∀ j, i ≤ j → j < P → j ≠ s → chS P s b c u0 j < smS P (b j)
theorem SwD.start {P s : Nat} {b : Nat → Nat → Int} {c u : Nat → Int} (h : PlS P s b c u) : SwD P s b c u P u false :=
  ⟨h, fun _ _ => Int.le_refl _, fun _ _ => rfl, (fun e => by cases e), fun _ => ⟨fun _ _ => rfl, fun j h1 h2 => by omega⟩⟩
theorem SwD.stay {P s i : Nat} {b : Nat → Nat → Int} {c u0 u : Nat → Int} {fl : Bool} (h : SwD P s b c u0 (i + 1) u fl) (hi : i < P) (hn : ¬ (i ≠ s ∧ smS P (b i) ≤ chS P s b c u i)) : SwD P s b c u0 i u fl := by
  refine ⟨h.pl, h.ge, fun j hj => h.far j (by omega), h.yes, fun e => ?_⟩
  obtain ⟨h1, h2⟩ := h.no e
  refine ⟨h1, fun j hj hjP hjs => ?_⟩
  by_cases ji : j = i
  · subst ji
    rw [← chS.congU h1 hjP]
    rcases Int.lt_or_le (chS P s b c u j) (smS P (b j)) with q | q
    · exact q
    · exact (hn ⟨hjs, q⟩).elim
  · exact h2 j (by omega) hjP hjs
theorem SwD.go {P s i : Nat} {b : Nat → Nat → Int} {c u0 u : Nat → Int} {K : Int} {fl : Bool} (Q : PileC P s b c K) (h : SwD P s b c u0 (i + 1) u fl) (hi : i < P) (his : i ≠ s) (hc : smS P (b i) ≤ chS P s b c u i) : SwD P s b c u0 i (upS u i (ofX P s b i (chS P s b c u i))) true := by
  have hf := ch_facts Q h.pl i hi
  have hd := Q.deg i hi
  obtain ⟨q1, q2, q3⟩ := ofX_facts (s := s) (b := b) (k := i) hf hd
  have qp := (of_pos (s := s) (b := b) (k := i) hf.1 hd).2 ⟨his, hc⟩
  obtain ⟨t, ht⟩ : ∃ t, ofX P s b i (chS P s b c u i) = t := ⟨_, rfl⟩
  rw [ht] at q1 q2 q3 qp ⊢
  have up : ∀ j, u j ≤ upS u i t j := fun j => by unfold upS; split <;> omega
  refine ⟨?_, fun j hj => Int.le_trans (h.ge j hj) (up j), fun j hj => ?_, fun _ => ?_, fun e => by cases e⟩
  · obtain ⟨tn, htn⟩ : ∃ tn : Nat, (tn : Int) = t := ⟨t.toNat, Int.toNat_of_nonneg q1⟩
    rw [← htn]
    refine h.pl.times Q.gr hi his tn ?_
    rw [htn]
    have : chS P s b c u i = c i - lapS P b u i := by unfold chS; rw [if_neg his]
    omega
  · unfold upS
    rw [if_neg (by omega)]; exact h.far j (by omega)
  · have es : smS P (upS u i t) = smS P u + t := smS_up u i t P hi
    have : smS P u0 ≤ smS P u := smS_le fun j hj => h.ge j hj
    omega
theorem SwD.still {P s : Nat} {b : Nat → Nat → Int} {c u0 u : Nat → Int} (h : SwD P s b c u0 0 u false) : stillS P s b c u := by
  obtain ⟨h1, h2⟩ := h.no rfl
  refine st_of.1 fun k hk ks => ?_
  rw [chS.congU h1 hk]
  exact h2 k (by omega) hk ks
theorem below_one {B g : Nat} {w0 V V' : World} (h : Below B w0 V) (k : One g V V') (hg : B ≤ g) (hB : B ≤ V.heap.size) : Below B w0 V' :=
  ⟨k.os.trans h.os, k.tape.trans h.tape, k.output.trans h.output, Nat.le_trans h.size k.size, fun i hi => (k.block i (by omega) (by omega)).trans (h.block i hi)⟩
theorem sum_row {V : World} {g P : Nat} {u : Nat → Int} (h : RowAt V g P u) : smS P (fun k => numAt V ⟨g, k, none⟩) = smS P u := smS_congr fun k hk => by
  unfold numAt
  rw [(rowA_cell h hk).1]
def isYes : Value → Bool
  | .bool b => b
  | _ => false
/-- What edenref6.Settle comes to. -/
def RefSet (w : World) (P s : Nat) (xs : List EgT) (cs : List Int) (e : Ending) (w' : World) : Prop :=
  Below w.heap.size w w' ∧ ∃ (a q t : Nat) (u : Nat → Int), e = .returned (.tuple #[slS a P q, slS t P P]) ∧ PlS P s (btX xs) (chF cs) u ∧ stillS P s (btX xs) (chF cs) u ∧ RowAt w' a P (chS P s (btX xs) (chF cs) u) ∧ RowAt w' t P u ∧ w.heap.size ≤ a ∧ w.heap.size ≤ t ∧ a ≠ t
/-- How the two rows lie while the reference settles. -/
structure RsS (w : World) (P s : Nat) (xs : List EgT) (cs : List Int) (ea : Option Addr) (n c a t : Nat) (u : Nat → Int) (V : World) : Prop where
  bl : Below w.heap.size w V
  gr : V.heap[w.heap.size]? = some (.cells #[.int .i64 (P : Int), .slice ea n c] 24 (0, 0))
  pl : PlS P s (btX xs) (chF cs) u
  ch : RowAt V a P (chS P s (btX xs) (chF cs) u)
  tm : RowAt V t P u
theorem RsS.below {w : World} {P s : Nat} {xs : List EgT} {cs : List Int} {ea : Option Addr} {n c a t : Nat} {u : Nat → Int} {V V' : World} (h : RsS w P s xs cs ea n c a t u V) (b : Below V.heap.size V V') : RsS w P s xs cs ea n c a t u V' :=
  ⟨h.bl.trans (b.mono h.bl.size), (b.block _ (ltS_of_block h.gr)).trans h.gr, h.pl, h.ch.below b, h.tm.below b⟩
set_option maxRecDepth 100000 in
set_option maxHeartbeats 12800000 in
theorem refSettle_any (P s : Nat) (xs : List EgT) (ea : Option Addr) (n c : Nat) (cs : List Int) (ca : Option Addr) (cn cc : Nat) (w : World) (G : GoodC P s xs cs) (hE : ArgE w xs ea n c) (hC : ArgP w cs ca cn cc) :
    Calls Tryd.prog 11 #[.agg #[.int .i64 (P : Int), .slice ea n c], .int .i64 (s : Int), .slice ca cn cc] w (RefSet w P s xs cs) := by
  obtain ⟨i0, hi0, hz⟩ := Option.map_eq_some_iff.1 info_int
  simp only [Prod.mk.injEq] at hz
  obtain ⟨hz0, hz1, hz2⟩ := hz
  obtain ⟨w1, hw1⟩ : ∃ w1, w.alloc (.cells #[.int .i64 (P : Int), .slice ea n c] 24) = w1 := ⟨_, rfl⟩
  obtain rfl : cn = P := by rw [hC.len, G.len]
  have ln := G.len
  have HW1 := hide' hw1
  have B1 := hide' (show Below w.heap.size w w1 by rw [← hw1]; exact (Below.refl _ _).alloc (Nat.le_refl _) _)
  have S1 := hide' (show w1.heap.size = w.heap.size + 1 by rw [← hw1]; simp)
  have R1 := hide' (show w1.heap[w.heap.size]? = some (.cells #[.int .i64 (cn : Int), .slice ea n c] 24 (0, 0)) by rw [← hw1]; exact heap_alloc_new _ _)
  have HE := hide' (fun (V : World) (h : Below w.heap.size w V) => hE.below h)
  have EA := hide' (show ∀ b off, ea = some ⟨b, off, none⟩ → 0 < xs.length → b < w.heap.size from fun b off e hl => by
    obtain ⟨b', off', e', hb, _⟩ := hE.cells 0 hl
    rw [e] at e'
    injection e' with e'
    injection e' with e1
    omega)
  have HL := hide' hE.len
  have GG := hide' G
  have n10 := G.ok.p2
  have n01 := G.ok.p1
  have hCW := hC.below B1.out
  obtain ⟨g0, off, rfl, hg0, -⟩ := hCW.cells 0 (by omega)
  have NW := hide' (show ∀ j u, (cs.map (Value.int .i64))[j]? = some u → w1.cell? ((⟨g0, off, none⟩ : Addr).add j) = some u from fun j u hj => by
    have hl : j < cs.length := by simpa using (List.getElem?_eq_some_iff.1 hj).1
    obtain ⟨g, o, e, hg, hc⟩ := hCW.cells j hl
    simp at e
    obtain ⟨rfl, rfl⟩ := e
    have ad : (⟨g0, off, none⟩ : Addr).add j = ⟨g0, off + j, none⟩ := by simp [Addr.add]
    rw [ad, hc]
    simpa [hl] using hj)
  clear hw1 hE hC G hCW hg0
  go_enter Tryd.func11, Tryd.ntmps11
  go_upto_region 1 with fail
  rw [HW1.out]
  go_wp2_with (at_builtin; refine wpList_append_own _ rfl _ _ 25 rfl w1.heap.size 3 i0 (.int .i64 0) 1 8 Tryd.underlying25 hi0 hz0 hz1 hz2 rfl (by decide) _ 0 [] rfl (World.ownsRow_nil _ _ _ _) ⟨g0, off, none⟩ cn cc (cs.map (Value.int .i64)) rfl (by rw [List.length_map]; omega) (fun j u hj => NW.out j u hj) (fun u hu => by obtain ⟨x, _, rfl⟩ := List.mem_map.1 hu; rfl) (by unfold maxLen; omega) (by omega) (by simp) ?_)
  intro v' w2 hown hgrow hnil
  have hown' : w2.ownsRow w1.heap.size 3 1 v' cn (cs.map (Value.int .i64)) := by simpa using hown
  obtain ⟨a, q, rfl, hnb, hlt⟩ := hown'.form (by omega)
  have b2 : Below w1.heap.size w1 w2 := (Below.refl _ _).grown hgrow (Nat.le_refl _) (by intro k hk; simp [Value.ownBlock] at hk)
  have RN := hide' (row_of_own hown' ln)
  have B2 := hide' (B1.out.trans (b2.mono B1.out.size))
  have R2 := hide' ((b2.block _ (ltS_of_block R1.out)).trans R1.out)
  have LA := hide' (show w1.heap.size ≤ a ∧ a < w2.heap.size from ⟨hnb, rowA_lt RN.out⟩)
  clear hown hown' hgrow hnil b2 hnb hlt NW hi0 hz0 hz1 hz2
  have mk := mk_intR cn n10
  go_upto_region 4 with fail
  clear mk
  obtain ⟨t, ht⟩ : ∃ t, w2.heap.size = t := ⟨_, rfl⟩
  obtain ⟨w3, hw3⟩ : ∃ w3, w2.alloc (.cells (arrS cn fun _ => .int .i64 0) 3) = w3 := ⟨_, rfl⟩
  rw [ht, hw3]
  have LT := hide' (show w.heap.size < a ∧ a < t ∧ w.heap.size < t by have := LA.out; have := S1.out; omega)
  have K0 := hide' (show RsS w cn s xs cs ea n c a t (fun _ => 0) w3 by
    have b3 : Below w2.heap.size w2 w3 := by rw [← hw3]; exact (Below.refl _ _).alloc (Nat.le_refl _) _
    refine ⟨B2.out.trans (b3.mono B2.out.size), (b3.block _ (ltS_of_block R2.out)).trans R2.out, PlS.start fun k hk => (GG.out.bnd k hk).1, ?_, ?_⟩
    · refine rowA_ext (rowA_on RN.out (b3.block _ LA.out.2)) fun k hk => ?_
      unfold chS
      by_cases q : k = s
      · rw [if_pos q, q]; exact GG.out.sink
      · rw [if_neg q, lap_zero]; show chF cs k = _; omega
    · rw [← hw3, ← ht]
      exact ⟨_, heap_alloc_new _ _, fun k hk => arrS_get _ hk⟩)
  have PI := hide' GG.out.pile
  have DG := hide' (fun (V : World) (h : Below w.heap.size w V) (k : Nat) => show Calls Tryd.prog 25 #[.agg #[.int .i64 (cn : Int), .slice ea n c], .int .i64 (k : Int)] V (fun e w' => e = .returned (.int .i64 (smS cn (btX xs k))) ∧ Below V.heap.size V w') by
    have := Degree_any (cn : Int) xs ea n c (k : Int) V (HE.out V h) ⟨GG.out.ok.n4, fun j hj => by have := GG.out.ok.ok j hj; unfold badE at this; omega⟩
    rw [HL.out, (nd_same GG.out.ok k k).1] at this
    rw [HL.out]
    exact this)
  have TP := hide' (fun (V : World) (u : Nat → Int) (h : RsS w cn s xs cs ea n c a t u V) (k : Nat) (hk : k < cn) (x : Int) (hx : 0 ≤ x ∧ x ≤ 100000) => refTopple_any cn xs ea n c s a q k x (chS cn s (btX xs) (chF cs) u) V (HE.out V h.bl) (fun b off e hl => by have := EA.out b off e hl; have := LT.out; omega) GG.out.ok hk hx (fun j hj => ch_facts PI.out h.pl j hj) h.ch)
  have SI := hide' (show s < cn from GG.out.sl)
  clear hw3 ht ln
  go_wp2
  go_loopw [10] (fun av V => ∃ (u : Nat → Int) (fl : Bool), av = .bool fl ∧ Hid (RsS w cn s xs cs ea n c a t u V) ∧ Hid (fl = false → stillS cn s (btX xs) (chF cs) u)) (fun av V => if isYes av then (MaxU cn 100000 - smS cn (fun k => numAt V ⟨t, k, none⟩)).toNat + 1 else 0)
  case atStart => exact ⟨fun _ => 0, true, rfl, K0, hide' fun e => by cases e⟩
  case round =>
    obtain ⟨u, fl, rfl, KU, FU⟩ := hrel
    cases fl with
    | false =>
      have lt := LT.out
      go_wp2
      go_ret2
      exact ⟨KU.out.bl, a, q, t, u, rfl, KU.out.pl, FU.out (by first | rfl | trivial), KU.out.ch, KU.out.tm, by omega, by omega, by omega⟩
    | true =>
      clear FU
      go_wp2
      go_loopw [10, 11] (fun av kv V => ∃ (i : Nat) (fl : Bool) (v : Nat → Int), av = .bool fl ∧ kv = .int .i64 ((i : Int) - 1) ∧ i ≤ cn ∧ Hid (RsS w cn s xs cs ea n c a t v V) ∧ Hid (SwD cn s (btX xs) (chF cs) u i v fl)) (fun _ kv _ => (intOf kv + 1).toNat)
      case atStart => exact ⟨cn, false, u, rfl, by go_num, Nat.le_refl _, KU, hide' (SwD.start KU.out.pl)⟩
      case round =>
        obtain ⟨i, fl, v, rfl, rfl, hi, KV, SV⟩ := hrel
        cases i with
        | zero =>
          go_wp2
          cases fl with
          | true =>
            refine ⟨⟨v, true, rfl, KV, hide' (fun e => by cases e)⟩, ?_⟩
            rw [sum_row KV.out.tm, sum_row KU.out.tm]
            have h1 := SV.out.yes rfl
            have h2 := sum_max PI.out KV.out.pl
            show (MaxU cn 100000 - smS cn v).toNat + 1 < (MaxU cn 100000 - smS cn u).toNat + 1
            omega
          | false => exact ⟨⟨v, false, rfl, KV, hide' (fun _ => SV.out.still)⟩, Nat.succ_pos _⟩
        | succ k =>
          have hk : k < cn := by omega
          rw [show ((k + 1 : Nat) : Int) - 1 = (k : Int) by omega]
          obtain ⟨d, hd⟩ : ∃ d, smS cn (btX xs k) = d := ⟨_, rfl⟩
          obtain ⟨x, hx⟩ : ∃ x, chS cn s (btX xs) (chF cs) v k = x := ⟨_, rfl⟩
          have CD := hide' (DG.out wr KV.out.bl k)
          rw [hd] at CD
          have HD := hide' hd
          have HX := hide' hx
          have HK := hide' hk
          clear hd hx hk
          have y0 := cell_of_row wr _ 0 _ _ _ KV.out.gr
          have y1 := cell_of_row wr _ 1 _ _ _ KV.out.gr
          simp at y0 y1
          have kn : ¬ (k : Int) < 0 := by omega
          have k0 : (0 : Int) ≤ (k : Int) := by omega
          have kc : (k : Int) < (cn : Int) := by have := HK.out; omega
          go_wp2_with fail
          refine CD.out.mono ?_
          rintro e w4 ⟨rfl, b4⟩
          have K4 := hide' (KV.out.below b4)
          clear b4 y0 y1 CD
          have c3 := (rowA_cell K4.out.ch HK.out).1
          rw [HX.out] at c3
          have hkn : k < cn := HK.out
          by_cases ks : k = s
          · have cs1 : ((k : Int) != (s : Int)) = false := by simp [ks]
            have NX := hide' (SV.out.stay HK.out (fun h => h.1 ks))
            clear ks
            go_wp2
            exact ⟨⟨k, fl, v, rfl, by go_num, by omega, K4, NX⟩, by simp [intOf]⟩
          · have cs1 : ((k : Int) != (s : Int)) = true := by simp; omega
            have KS := hide' ks
            clear ks
            by_cases kx : d ≤ x
            · have f1 := ch_facts PI.out K4.out.pl k HK.out
              rw [HX.out] at f1
              have f2 := PI.out.deg k HK.out KS.out
              rw [HD.out] at f2
              obtain ⟨z, hz⟩ : ∃ z, x.tdiv d = z := ⟨_, rfl⟩
              have oz : ofX cn s (btX xs) k (chS cn s (btX xs) (chF cs) v k) = z := by
                unfold ofX
                rw [if_neg KS.out, HX.out, HD.out]; exact hz
              have f3 := ofX_facts (s := s) (b := btX xs) (k := k) (ch_facts PI.out K4.out.pl k HK.out) (PI.out.deg k HK.out)
              rw [oz] at f3
              have NX := hide' (show SwD cn s (btX xs) (chF cs) u k (upS v k z) true by rw [← oz]; exact SV.out.go PI.out HK.out KS.out (by rw [HD.out, HX.out]; exact kx))
              have CT := hide' (TP.out w4 v K4.out k HK.out z ⟨f3.1, f3.2.1⟩)
              have Z := hide' (show 0 ≤ z ∧ z ≤ 100000 from ⟨f3.1, f3.2.1⟩)
              have y0 := cell_of_row w4 _ 0 _ _ _ K4.out.gr
              have y1 := cell_of_row w4 _ 1 _ _ _ K4.out.gr
              simp at y0 y1
              have dn : ¬ d = 0 := by omega
              have dz : (d == 0) = false := by simp; omega
              have wz : wrap64 z = z := wrap_big (by have := Z.out; omega) (by have := Z.out; omega)
              have wq : wrap64 (x.tdiv d) = z := by rw [hz]; exact wz
              clear oz f3 f2 f1
              go_wp2_with fail
              refine CT.out.mono ?_
              rintro e w5 ⟨rfl, o5, r5⟩
              have la := LT.out
              have K5 := hide' (show Below w.heap.size w w5 ∧ w5.heap[w.heap.size]? = some (.cells #[.int .i64 (cn : Int), .slice ea n c] 24 (0, 0)) ∧ RowAt w5 a cn (chS cn s (btX xs) (chF cs) (upS v k z)) ∧ RowAt w5 t cn v from
                ⟨below_one K4.out.bl o5 (by omega) K4.out.bl.size, (o5.block _ (ltS_of_block K4.out.gr) (by omega)).trans K4.out.gr, rowA_ext r5 fun j hj => tpF_ch PI.out.gr HK.out z (fun e => absurd e KS.out) hj, rowA_on K4.out.tm (o5.block _ (rowA_lt K4.out.tm) (by omega))⟩)
              have WZ := hide' wz
              clear o5 r5 y0 y1 dn dz wz wq hz CT c3
              obtain ⟨y, hy⟩ : ∃ y, v k = y := ⟨_, rfl⟩
              obtain ⟨c4, f4⟩ := rowA_cell K5.out.2.2.2 HK.out
              rw [hy] at c4
              have wy : wrap64 (y + z) = y + z := by
                have h1 := K4.out.pl.pos k HK.out
                have h2 := u_facts PI.out K4.out.pl k HK.out
                have h3 := Z.out
                rw [hy] at h1 h2
                exact wrap_big (by omega) (by omega)
              have HY := hide' hy
              clear hy
              go_wp2
              refine ⟨⟨k, true, upS v k z, rfl, by go_num, by omega, hide' ⟨below_setCell K5.out.1 (by omega) _ _, (hSetR _ _ _ _ (by show w.heap.size ≠ t; omega)).trans K5.out.2.1, NX.out.pl, rowA_on K5.out.2.2.1 (hSetR _ _ _ _ (by show a ≠ t; omega)), rowA_ext (rowA_set K5.out.2.2.2 HK.out _) fun j _ => ?_⟩, NX⟩, by simp [intOf]⟩
              unfold upI upS
              by_cases e : j = k
              · rw [if_pos e, if_pos e, e, HY.out, WZ.out]; exact wy
              · rw [if_neg e, if_neg e]
            · have NX := hide' (SV.out.stay HK.out (fun h => kx (by have := h.2; rw [HD.out, HX.out] at this; exact this)))
              go_wp2
              exact ⟨⟨k, fl, v, rfl, by go_num, by omega, K4, NX⟩, by simp [intOf]⟩
end Go.Proofs.YtpajdmhgonmgoaaDoor

namespace Go.Proofs.YtpajdmhgonmgoaaDoor
open Go.RowKit
set_option linter.unusedVariables false
set_option linter.unusedSimpArgs false
/-- The chips behind the first so many places of an order. -/
def TpI (P s : Nat) (b : Nat → Nat → Int) (F : Nat → Int) (os : List Int) : Nat → Nat → Int
  | 0 => F
  | i + 1 => tpF P s b (TpI P s b F os i) (os.getD i 0).toNat 1
def rgO (P s : Nat) (x : Int) : Prop := 0 ≤ x ∧ x < (P : Int) ∧ x ≠ (s : Int)
/-- The i-th place of an order can topple. -/
def gdO (P s : Nat) (b : Nat → Nat → Int) (F : Nat → Int) (os : List Int) (i : Nat) : Prop := rgO P s (os.getD i 0) ∧ smS P (b (os.getD i 0).toNat) ≤ TpI P s b F os i (os.getD i 0).toNat
/-- What is wrong with an order. -/
def TpO (P s : Nat) (b : Nat → Nat → Int) (F : Nat → Int) (os : List Int) (f : Nat) : Prop :=
  (f = 0 ∧ ∀ i, i < os.length → gdO P s b F os i) ∨
  ∃ i, i < os.length ∧ (∀ m, m < i → gdO P s b F os m) ∧ ((¬ rgO P s (os.getD i 0) ∧ f = 1) ∨ (rgO P s (os.getD i 0) ∧ TpI P s b F os i (os.getD i 0).toNat < smS P (b (os.getD i 0).toNat) ∧ f = 7))
section
variable {P s : Nat} {b : Nat → Nat → Int} {F : Nat → Int} {os : List Int} {f f' : Nat}
theorem TpO.only (h : TpO P s b F os f) (h' : TpO P s b F os f') : f = f' := by
  have bad : ∀ {i f}, ((¬ rgO P s (os.getD i 0) ∧ f = 1) ∨ (rgO P s (os.getD i 0) ∧ TpI P s b F os i (os.getD i 0).toNat < smS P (b (os.getD i 0).toNat) ∧ f = 7)) → ¬ gdO P s b F os i := by
    rintro i f (⟨h, _⟩ | ⟨_, h, _⟩) ⟨g1, g2⟩
    · exact h g1
    · omega
  rcases h with ⟨rfl, h⟩ | ⟨i, hi, hm, hb⟩
  · rcases h' with ⟨rfl, _⟩ | ⟨i, hi, _, hb⟩
    · rfl
    · exact absurd (h i hi) (bad hb)
  · rcases h' with ⟨rfl, h'⟩ | ⟨j, hj, hm', hb'⟩
    · exact absurd (h' i hi) (bad hb)
    · have e : i = j := by
        rcases Nat.lt_trichotomy i j with q | q | q
        · exact absurd (hm' i q) (bad hb)
        · exact q
        · exact absurd (hm j q) (bad hb')
      subst e
      rcases hb with ⟨h1, h2⟩ | ⟨h1, h2, h3⟩ <;> rcases hb' with ⟨k1, k2⟩ | ⟨k1, k2, k3⟩
      · omega
      · exact absurd k1 h1
      · exact absurd h1 k1
      · omega
/-- As long as all could topple, it is a legal plan. -/
theorem tpi_pl {K : Int} (Q : PileC P s b F K) (hs : F s = 0) : ∀ {i : Nat}, i ≤ os.length → (∀ m, m < i → gdO P s b F os m) → ∃ u, PlS P s b F u ∧ ∀ j, j < P → TpI P s b F os i j = chS P s b F u j
  | 0, _, _ => ⟨fun _ => 0, PlS.start fun k hk => Q.c0p k hk, fun j hj => by
    show F j = _
    unfold chS
    by_cases q : j = s
    · rw [if_pos q, q]; exact hs
    · rw [if_neg q, lap_zero]; omega⟩
  | i + 1, hi, h => by
    obtain ⟨u, h1, h2⟩ := tpi_pl Q hs (i := i) (by omega) fun m hm => h m (by omega)
    obtain ⟨⟨g1, g2, g3⟩, g4⟩ := h i (by omega)
    have hk : (os.getD i 0).toNat < P := by omega
    obtain ⟨k1, k2⟩ := law_step Q.gr h1 h2 hk (by omega) g4
    exact ⟨_, k1, k2⟩
end
end Go.Proofs.YtpajdmhgonmgoaaDoor

namespace Go.Proofs.YtpajdmhgonmgoaaDoor
open Go.RowKit
set_option linter.unusedVariables false
set_option linter.unusedSimpArgs false
/-- How the row lies while the reference topples by an order. -/
structure RsT (w : World) (P s : Nat) (xs : List EgT) (cs os : List Int) (ea : Option Addr) (n c a i : Nat) (V : World) : Prop where
  bl : Below w.heap.size w V
  gr : V.heap[w.heap.size]? = some (.cells #[.int .i64 (P : Int), .slice ea n c] 24 (0, 0))
  le : i ≤ os.length
  ok : ∀ m, m < i → gdO P s (btX xs) (chF cs) os m
  ch : RowAt V a P (TpI P s (btX xs) (chF cs) os i)
theorem RsT.below {w : World} {P s : Nat} {xs : List EgT} {cs os : List Int} {ea : Option Addr} {n c a i : Nat} {V V' : World} (h : RsT w P s xs cs os ea n c a i V) (b : Below V.heap.size V V') : RsT w P s xs cs os ea n c a i V' :=
  ⟨h.bl.trans (b.mono h.bl.size), (b.block _ (ltS_of_block h.gr)).trans h.gr, h.le, h.ok, h.ch.below b⟩
/-- What edenref6.Topple comes to. -/
def RefTop (w : World) (P s : Nat) (xs : List EgT) (cs os : List Int) (e : Ending) (w' : World) : Prop :=
  Below w.heap.size w w' ∧ ∃ f : Nat, TpO P s (btX xs) (chF cs) os f ∧ ((¬ f = 0 ∧ e = .returned (.tuple #[.slice none 0 0, .int .i64 (f : Int)])) ∨
    (f = 0 ∧ ∃ a q : Nat, e = .returned (.tuple #[slS a P q, .int .i64 0]) ∧ RowAt w' a P (TpI P s (btX xs) (chF cs) os os.length) ∧ w.heap.size ≤ a))
set_option maxRecDepth 100000 in
set_option maxHeartbeats 12800000 in
theorem refTop_any (P s : Nat) (xs : List EgT) (ea : Option Addr) (n c : Nat) (cs : List Int) (ca : Option Addr) (cn cc : Nat) (os : List Int) (oa : Option Addr) (om oc : Nat) (w : World) (G : GoodC P s xs cs) (hE : ArgE w xs ea n c) (hC : ArgP w cs ca cn cc) (hO : ArgP w os oa om oc) :
    Calls Tryd.prog 13 #[.agg #[.int .i64 (P : Int), .slice ea n c], .int .i64 (s : Int), .slice ca cn cc, .slice oa om oc] w (RefTop w P s xs cs os) := by
  obtain ⟨i0, hi0, hz⟩ := Option.map_eq_some_iff.1 info_int
  simp only [Prod.mk.injEq] at hz
  obtain ⟨hz0, hz1, hz2⟩ := hz
  obtain ⟨w1, hw1⟩ : ∃ w1, w.alloc (.cells #[.int .i64 (P : Int), .slice ea n c] 24) = w1 := ⟨_, rfl⟩
  obtain rfl : cn = P := by rw [hC.len, G.len]
  have ln := G.len
  have HW1 := hide' hw1
  have B1 := hide' (show Below w.heap.size w w1 by rw [← hw1]; exact (Below.refl _ _).alloc (Nat.le_refl _) _)
  have S1 := hide' (show w1.heap.size = w.heap.size + 1 by rw [← hw1]; simp)
  have R1 := hide' (show w1.heap[w.heap.size]? = some (.cells #[.int .i64 (cn : Int), .slice ea n c] 24 (0, 0)) by rw [← hw1]; exact heap_alloc_new _ _)
  have HE := hide' (fun (V : World) (h : Below w.heap.size w V) => hE.below h)
  have EA := hide' (show ∀ b off, ea = some ⟨b, off, none⟩ → 0 < xs.length → b < w.heap.size from fun b off e hl => by
    obtain ⟨b', off', e', hb, _⟩ := hE.cells 0 hl
    rw [e] at e'
    injection e' with e'
    injection e' with e1
    omega)
  have HL := hide' hE.len
  have GG := hide' G
  have n10 := G.ok.p2
  have n01 := G.ok.p1
  have hCW := hC.below B1.out
  obtain ⟨g0, off, rfl, hg0, -⟩ := hCW.cells 0 (by omega)
  have NW := hide' (show ∀ j u, (cs.map (Value.int .i64))[j]? = some u → w1.cell? ((⟨g0, off, none⟩ : Addr).add j) = some u from fun j u hj => by
    have hl : j < cs.length := by simpa using (List.getElem?_eq_some_iff.1 hj).1
    obtain ⟨g, o, e, hg, hc⟩ := hCW.cells j hl
    simp at e
    obtain ⟨rfl, rfl⟩ := e
    have ad : (⟨g0, off, none⟩ : Addr).add j = ⟨g0, off + j, none⟩ := by simp [Addr.add]
    rw [ad, hc]
    simpa [hl] using hj)
  have HO := hide' (fun (V : World) (h : Below w.heap.size w V) => hO.below h)
  have HM := hide' hO.len
  have om' := hO.max
  unfold maxLen at om'
  clear hw1 hE hC G hCW hg0 hO
  go_enter Tryd.func13, Tryd.ntmps13
  go_upto_region 1 with fail
  rw [HW1.out]
  go_wp2_with (at_builtin; refine wpList_append_own _ rfl _ _ 25 rfl w1.heap.size 3 i0 (.int .i64 0) 1 8 Tryd.underlying25 hi0 hz0 hz1 hz2 rfl (by decide) _ 0 [] rfl (World.ownsRow_nil _ _ _ _) ⟨g0, off, none⟩ cn cc (cs.map (Value.int .i64)) rfl (by rw [List.length_map]; omega) (fun j u hj => NW.out j u hj) (fun u hu => by obtain ⟨x, _, rfl⟩ := List.mem_map.1 hu; rfl) (by unfold maxLen; omega) (by omega) (by simp) ?_)
  intro v' w2 hown hgrow hnil
  have hown' : w2.ownsRow w1.heap.size 3 1 v' cn (cs.map (Value.int .i64)) := by simpa using hown
  obtain ⟨a, q, rfl, hnb, hlt⟩ := hown'.form (by omega)
  have b2 : Below w1.heap.size w1 w2 := (Below.refl _ _).grown hgrow (Nat.le_refl _) (by intro k hk; simp [Value.ownBlock] at hk)
  have RN := hide' (row_of_own hown' ln)
  have B2 := hide' (B1.out.trans (b2.mono B1.out.size))
  have R2 := hide' ((b2.block _ (ltS_of_block R1.out)).trans R1.out)
  have LA := hide' (show w1.heap.size ≤ a ∧ a < w2.heap.size from ⟨hnb, rowA_lt RN.out⟩)
  clear hown hown' hgrow hnil b2 hnb hlt NW hi0 hz0 hz1 hz2
  have S3 := hide' (show w.heap.size < a by have := LA.out; have := S1.out; omega)
  have PI := hide' GG.out.pile
  have DG := hide' (fun (V : World) (h : Below w.heap.size w V) (k : Nat) => show Calls Tryd.prog 25 #[.agg #[.int .i64 (cn : Int), .slice ea n c], .int .i64 (k : Int)] V (fun e w' => e = .returned (.int .i64 (smS cn (btX xs k))) ∧ Below V.heap.size V w') by
    have := Degree_any (cn : Int) xs ea n c (k : Int) V (HE.out V h) ⟨GG.out.ok.n4, fun j hj => by have := GG.out.ok.ok j hj; unfold badE at this; omega⟩
    rw [HL.out, (nd_same GG.out.ok k k).1] at this
    rw [HL.out]
    exact this)
  have TP := hide' (fun (V : World) (i : Nat) (h : RsT w cn s xs cs os ea n c a i V) (k : Nat) (hk : k < cn) => refTopple_any cn xs ea n c s a q k 1 (TpI cn s (btX xs) (chF cs) os i) V (HE.out V h.bl) (fun b off e hl => by have := EA.out b off e hl; have := S3.out; omega) GG.out.ok hk ⟨by omega, by omega⟩ (fun j hj => by
    obtain ⟨u, h1, h2⟩ := tpi_pl PI.out GG.out.sink h.le h.ok
    rw [h2 j hj]
    exact ch_facts PI.out h1 j hj) h.ch)
  have K0 := hide' (show RsT w cn s xs cs os ea n c a 0 w2 from ⟨B2.out, R2.out, Nat.zero_le _, fun m hm => by omega, RN.out⟩)
  clear ln
  go_wp2
  go_loopw [11] (fun iv V => ∃ i : Nat, iv = .int .i64 (i : Int) ∧ i ≤ om ∧ Hid (RsT w cn s xs cs os ea n c a i V)) (fun iv _ => om - (intOf iv).toNat)
  case atStart => exact ⟨0, rfl, Nat.zero_le _, K0⟩
  case round =>
    obtain ⟨i, rfl, hi, KI⟩ := hrel
    by_cases d : (i : Int) < (om : Int)
    · have hl : i < os.length := by have := HM.out; omega
      obtain ⟨g, o, rfl, hg, c0⟩ := (HO.out wr KI.out.bl).cells i hl
      obtain ⟨x, hx⟩ : ∃ x, os[i] = x := ⟨_, rfl⟩
      rw [hx] at c0
      have EQ := hide' (show os.getD i 0 = x by simp [List.getD, hl, hx])
      have IL := hide' hl
      have y0 := cell_of_row wr _ 0 _ _ _ KI.out.gr
      have y1 := cell_of_row wr _ 1 _ _ _ KI.out.gr
      simp at y0 y1
      clear hx hl hg
      by_cases x0 : x < 0
      · have BAD := hide' (show TpO cn s (btX xs) (chF cs) os 1 from Or.inr ⟨i, IL.out, KI.out.ok, Or.inl ⟨fun h => by have := h.1; rw [EQ.out] at this; omega, rfl⟩⟩)
        go_wp2
        go_ret2
        exact ⟨KI.out.bl, 1, BAD.out, Or.inl ⟨by decide, rfl⟩⟩
      · by_cases x1 : (cn : Int) ≤ x
        · have BAD := hide' (show TpO cn s (btX xs) (chF cs) os 1 from Or.inr ⟨i, IL.out, KI.out.ok, Or.inl ⟨fun h => by have := h.2.1; rw [EQ.out] at this; omega, rfl⟩⟩)
          go_wp2
          go_ret2
          exact ⟨KI.out.bl, 1, BAD.out, Or.inl ⟨by decide, rfl⟩⟩
        · by_cases x2 : x = (s : Int)
          · have BAD := hide' (show TpO cn s (btX xs) (chF cs) os 1 from Or.inr ⟨i, IL.out, KI.out.ok, Or.inl ⟨fun h => by have := h.2.2; rw [EQ.out] at this; omega, rfl⟩⟩)
            have xe : (x == (s : Int)) = true := by simp [x2]
            clear x2
            go_wp2
            go_ret2
            exact ⟨KI.out.bl, 1, BAD.out, Or.inl ⟨by decide, rfl⟩⟩
          · have xe : (x == (s : Int)) = false := by simpa using x2
            obtain ⟨k, rfl⟩ := Int.eq_ofNat_of_zero_le (show 0 ≤ x by omega)
            have RG := hide' (show rgO cn s (os.getD i 0) by rw [EQ.out]; exact ⟨by omega, by omega, x2⟩)
            have ET := hide' (show (os.getD i 0).toNat = k by rw [EQ.out]; simp)
            have HK := hide' (show k < cn by omega)
            obtain ⟨dg, hd⟩ : ∃ dg, smS cn (btX xs k) = dg := ⟨_, rfl⟩
            have CD := hide' (DG.out wr KI.out.bl k)
            rw [hd] at CD
            have HD := hide' hd
            clear hd x2
            go_wp2_with fail
            refine CD.out.mono ?_
            rintro e w4 ⟨rfl, b4⟩
            have K4 := hide' (KI.out.below b4)
            clear b4 y0 y1 CD
            obtain ⟨z, hz⟩ : ∃ z, TpI cn s (btX xs) (chF cs) os i k = z := ⟨_, rfl⟩
            have c3 := (rowA_cell K4.out.ch HK.out).1
            rw [hz] at c3
            have HZ := hide' hz
            have hkn : k < cn := HK.out
            clear hz
            by_cases zd : z < dg
            · have BAD := hide' (show TpO cn s (btX xs) (chF cs) os 7 from Or.inr ⟨i, IL.out, KI.out.ok, Or.inr ⟨RG.out, by rw [ET.out, HZ.out, HD.out]; exact zd, rfl⟩⟩)
              go_wp2
              go_ret2
              exact ⟨K4.out.bl, 7, BAD.out, Or.inl ⟨by decide, rfl⟩⟩
            · have CT := hide' (TP.out w4 i K4.out k HK.out)
              have GD := hide' (show gdO cn s (btX xs) (chF cs) os i from ⟨RG.out, by rw [ET.out, HZ.out, HD.out]; omega⟩)
              have y0 := cell_of_row w4 _ 0 _ _ _ K4.out.gr
              have y1 := cell_of_row w4 _ 1 _ _ _ K4.out.gr
              simp at y0 y1
              go_wp2_with fail
              refine CT.out.mono ?_
              rintro e w5 ⟨rfl, o5, r5⟩
              have K5 := hide' (show RsT w cn s xs cs os ea n c a (i + 1) w5 from by
                have la := S3.out
                refine ⟨below_one K4.out.bl o5 (by omega) K4.out.bl.size, (o5.block _ (ltS_of_block K4.out.gr) (by omega)).trans K4.out.gr, IL.out, fun m hm => ?_, ?_⟩
                · by_cases e : m = i
                  · rw [e]; exact GD.out
                  · exact K4.out.ok m (by omega)
                · have : TpI cn s (btX xs) (chF cs) os (i + 1) = tpF cn s (btX xs) (TpI cn s (btX xs) (chF cs) os i) k 1 := by
                    show tpF cn s (btX xs) (TpI cn s (btX xs) (chF cs) os i) (os.getD i 0).toNat 1 = _
                    rw [ET.out]
                  rw [this]; exact r5)
              clear o5 r5 y0 y1 CT
              go_wp2
              exact ⟨⟨i + 1, by go_num, by omega, K5⟩, by simp [intOf]; omega⟩
    · obtain rfl : i = om := by omega
      have la := S3.out
      have FIN := hide' (show TpO cn s (btX xs) (chF cs) os 0 from Or.inl ⟨rfl, fun m hm => KI.out.ok m (by have := HM.out; omega)⟩)
      have RW := hide' (show RowAt wr a cn (TpI cn s (btX xs) (chF cs) os os.length) by have := KI.out.ch; rw [HM.out] at this; exact this)
      go_wp2
      go_ret2
      exact ⟨KI.out.bl, 0, FIN.out, Or.inr ⟨rfl, a, q, rfl, RW.out, by omega⟩⟩
end Go.Proofs.YtpajdmhgonmgoaaDoor

