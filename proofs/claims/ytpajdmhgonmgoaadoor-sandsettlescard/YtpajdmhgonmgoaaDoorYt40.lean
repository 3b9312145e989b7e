/-
  What the last text of this claim leans on, part 40: Ta6, As, Err, Ce0.
-/
import Derived.Test.YtpajdmhgonmgoaaDoorYt39
import Derived.Test.YtpajdmhgonmgoaaDoorYt35
import Derived.Test.YtpajdmhgonmgoaaDoorProg
import Derived.Test.YtpajdmhgonmgoaaDoorYt21
import Derived.WalkKit
import Derived.LaidEql
import Derived.Stop.Asserts
import Derived.RowKitTokens
import Derived.WalkSpells
import Derived.WalkLawsBesides
namespace Go.Proofs.YtpajdmhgonmgoaaDoor
open Go.RowKit
set_option linter.unusedVariables false
set_option linter.unusedSimpArgs false
/-- How a pile lies while sand.Topple goes through an order. -/
structure PlT (w : World) (P : Int) (Q sn : Nat) (xs : List EgT) (cs os : List Int) (ea : Option Addr) (n c pb ca q ta i : Nat) (u : Nat → Int) (V : World) : Prop where
  bl : Below w.heap.size w V
  gr : V.heap[w.heap.size]? = some (.cells #[.int .i64 P, .slice ea n c] 24 (0, 0))
  le : i ≤ os.length
  ok : ∀ m, m < i → gdO Q sn (btX xs) (chF cs) os m
  pl : PlS Q sn (btX xs) (chF cs) u
  eq : ∀ j, j < Q → TpI Q sn (btX xs) (chF cs) os i j = chS Q sn (btX xs) (chF cs) u j
  pi : PilAt V pb ca q ta Q sn (btX xs) (TpI Q sn (btX xs) (chF cs) os i) u
theorem PlT.below {w : World} {P : Int} {Q sn : Nat} {xs : List EgT} {cs os : List Int} {ea : Option Addr} {n c pb ca q ta i : Nat} {u : Nat → Int} {V V' : World} (h : PlT w P Q sn xs cs os ea n c pb ca q ta i u V) (b : Below V.heap.size V V') : PlT w P Q sn xs cs os ea n c pb ca q ta i u V' :=
  ⟨h.bl.trans (b.mono h.bl.size), (b.block _ (ltS_of_block h.gr)).trans h.gr, h.le, h.ok, h.pl, h.eq, pil_below h.pi b⟩
/-- What sand.Topple comes to, by any order. -/
def TopX (w : World) (P : Int) (xs : List EgT) (s : Int) (cs os : List Int) (e : Ending) (w' : World) : Prop :=
  Below w.heap.size w w' ∧ ∃ f : Nat, (¬ f = 0 ∧ ChG P xs s cs f ∧ e = .returned (.tuple #[.slice none 0 0, errOf f])) ∨
    ∃ Q sn : Nat, P = (Q : Int) ∧ s = (sn : Int) ∧ GoodC Q sn xs cs ∧ TpO Q sn (btX xs) (chF cs) os f ∧ ((¬ f = 0 ∧ e = .returned (.tuple #[.slice none 0 0, errOf f])) ∨
      (f = 0 ∧ ∃ a q : Nat, e = .returned (.tuple #[slS a Q q, .nilIface]) ∧ RowAt w' a Q (TpI Q sn (btX xs) (chF cs) os os.length) ∧ w.heap.size ≤ a))
theorem TopX.order {w : World} {P s : Int} {xs : List EgT} {cs os : List Int} {w' : World} {Q sn f : Nat} (hb : Below w.heap.size w w') (h1 : P = (Q : Int)) (h2 : s = (sn : Int)) (G : GoodC Q sn xs cs) (f0 : ¬ f = 0) (h : TpO Q sn (btX xs) (chF cs) os f) : TopX w P xs s cs os (.returned (.tuple #[.slice none 0 0, errOf f])) w' :=
  ⟨hb, f, Or.inr ⟨Q, sn, h1, h2, G, h, Or.inl ⟨f0, rfl⟩⟩⟩
set_option maxRecDepth 100000 in
set_option maxHeartbeats 12800000 in
theorem toppleA_any (P : Int) (xs : List EgT) (ea : Option Addr) (n c : Nat) (s : Int) (cs : List Int) (ca : Option Addr) (cn cc : Nat) (os : List Int) (oa : Option Addr) (om oc : Nat) (w : World) (hE : ArgE w xs ea n c) (hC : ArgP w cs ca cn cc) (hO : ArgP w os oa om oc) :
    Calls Tryd.prog 14 #[.agg #[.int .i64 P, .slice ea n c], .int .i64 s, .slice ca cn cc, .slice oa om oc] w (TopX w P xs s cs os) := by
  obtain ⟨w1, hw1⟩ : ∃ w1, w.alloc (.cells #[.int .i64 P, .slice ea n c] 24) = w1 := ⟨_, rfl⟩
  have HW1 := hide' hw1
  have B1 := hide' (show Below w.heap.size w w1 by rw [← hw1]; exact (Below.refl _ _).alloc (Nat.le_refl _) _)
  have R1 := hide' (show w1.heap[w.heap.size]? = some (.cells #[.int .i64 P, .slice ea n c] 24 (0, 0)) by rw [← hw1]; exact heap_alloc_new _ _)
  have CK := hide' (checkChips_any P xs ea n c s cs ca cn cc w1 (hE.below B1.out) (hC.below B1.out))
  have PO := hide' (fun (V : World) (h : Below w.heap.size w V) (Q sn : Nat) (hQ : P = (Q : Int)) (hs : s = (sn : Int)) (G : GoodC Q sn xs cs) => show Calls Tryd.prog 20 #[.agg #[.int .i64 P, .slice ea n c], .int .i64 s, .slice ca cn cc] V (PourX V Q sn xs cs) by rw [hQ, hs]; exact pourX_any Q xs ea n c sn cs ca cn cc V (hE.below h) (hC.below h) G.ok (by rw [hC.len, G.len]) G.sl)
  have HO := hide' (fun (V : World) (h : Below w.heap.size w V) => hO.below h)
  have HM := hide' hO.len
  have om' := hO.max
  unfold maxLen at om'
  have E1 := hide' (show errOf 1 = .iface 48 (.int .i64 1) from errOf_not (by decide))
  have E7 := hide' (show errOf 7 = .iface 48 (.int .i64 7) from errOf_not (by decide))
  have y0 := cell_of_row w1 _ 0 _ _ _ R1.out
  have y1 := cell_of_row w1 _ 1 _ _ _ R1.out
  simp at y0 y1
  clear hw1 hE hC hO
  go_enter Tryd.func14, Tryd.ntmps14
  go_upto_region 1 with fail
  rw [HW1.out]
  go_wp2_with fail
  refine CK.out.mono ?_
  rintro e w2 ⟨f, hf, rfl, b2⟩
  have HF := hide' hf
  have B2 := hide' (B1.out.trans (b2.mono B1.out.size))
  have R2 := hide' ((b2.block _ (ltS_of_block R1.out)).trans R1.out)
  clear hf b2 y0 y1
  by_cases h0 : f = 0
  · subst h0
    rw [show errOf 0 = .nilIface from rfl]
    have y0 := cell_of_row w2 _ 0 _ _ _ R2.out
    have y1 := cell_of_row w2 _ 1 _ _ _ R2.out
    simp at y0 y1
    obtain ⟨Q, sn, hQ, hs, G⟩ := good_of HF.out
    have CP := hide' (PO.out w2 B2.out Q sn hQ hs G)
    have GG := hide' G
    have HQs := hide' (show P = (Q : Int) ∧ s = (sn : Int) from ⟨hQ, hs⟩)
    clear hQ hs G
    go_wp2_with fail
    refine CP.out.mono ?_
    rintro e w3 ⟨pb, ca', q, ta, rfl, hp, b3, g1, g2, g3⟩
    have GE := hide' (show w2.heap.size ≤ pb ∧ w2.heap.size ≤ ca' ∧ w2.heap.size ≤ ta from ⟨g1, g2, g3⟩)
    have GW := hide' (show w.heap.size < pb ∧ w.heap.size < ca' ∧ w.heap.size < ta by have h1 := ltS_of_block R2.out; omega)
    have PP0 := GG.out.pile
    have K0 := hide' (show PlT w P Q sn xs cs os ea n c pb ca' q ta 0 (fun _ => 0) w3 from ⟨B2.out.trans (b3.mono B2.out.size), (b3.block _ (ltS_of_block R2.out)).trans R2.out, Nat.zero_le _, fun m hm => by omega, PlS.start fun k hk => PP0.c0p k hk, fun j hj => by
      show chF cs j = _
      unfold chS
      by_cases q : j = sn
      · rw [if_pos q, q]; exact GG.out.sink
      · rw [if_neg q, lap_zero]; omega, hp⟩)
    clear b3 y0 y1 hp g1 g2 g3 PP0
    go_wp2
    go_loopw [27] (fun iv V => ∃ (i : Nat) (u : Nat → Int), iv = .int .i64 (i : Int) ∧ i ≤ om ∧ Hid (PlT w P Q sn xs cs os ea n c pb ca' q ta i u V)) (fun iv _ => om - (intOf iv).toNat)
    case atStart => exact ⟨0, _, rfl, Nat.zero_le _, K0⟩
    case round =>
      obtain ⟨i, u, rfl, hi, KI⟩ := hrel
      by_cases d : (i : Int) < (om : Int)
      · have hl : i < os.length := by have := HM.out; omega
        obtain ⟨g, o, rfl, hg, o0⟩ := (HO.out wr KI.out.bl).cells i hl
        obtain ⟨x, hx⟩ : ∃ x, os[i] = x := ⟨_, rfl⟩
        rw [hx] at o0
        have EQ := hide' (show os.getD i 0 = x by simp [List.getD, hl, hx])
        have IL := hide' hl
        have y0 := cell_of_row wr _ 0 _ _ _ KI.out.gr
        have y1 := cell_of_row wr _ 1 _ _ _ KI.out.gr
        simp at y0 y1
        have IP := hide' (isPlaceS_any P x ea n c wr)
        clear hx hl hg
        go_wp2_with fail
        refine IP.out.mono ?_
        rintro e w4 ⟨rfl, b4⟩
        have K4 := hide' (KI.out.below b4)
        clear b4 o0 y0 y1 IP
        by_cases hin : 0 ≤ x ∧ x < P
        · rw [inB_yes hin.1 hin.2]
          obtain ⟨k, rfl⟩ := Int.eq_ofNat_of_zero_le hin.1
          have hk : k < Q := by have := HQs.out.1; omega
          have HK := hide' hk
          by_cases hs : (k : Int) = s
          · have e1 : ((k : Int) == s) = true := by simp [hs]
            have BAD := hide' (show TpO Q sn (btX xs) (chF cs) os 1 from Or.inr ⟨i, IL.out, KI.out.ok, Or.inl ⟨fun h => by have h2 := h.2.2; rw [EQ.out] at h2; exact h2 (by have := HQs.out.2; omega), rfl⟩⟩)
            clear hs hin hk
            go_wp2
            go_ret2
            rw [← E1.out]
            exact TopX.order K4.out.bl HQs.out.1 HQs.out.2 GG.out (by decide) BAD.out
          · have e1 : ((k : Int) == s) = false := by simp [hs]
            have HKS := hide' (show k ≠ sn by have := HQs.out.2; omega)
            have RG := hide' (show rgO Q sn (os.getD i 0) by rw [EQ.out]; exact ⟨by omega, by omega, by have := HKS.out; omega⟩)
            have ET := hide' (show (os.getD i 0).toNat = k by rw [EQ.out]; simp)
            have PP := GG.out.pile
            have l0 : (0 : Int) ≤ (k : Int) := by omega
            have l1 : (k : Int) < (Q : Int) := by omega
            have l2 : k < 10 := by have := GG.out.ok.p2; omega
            have bn := ch_facts PP K4.out.pl k hk
            rw [← K4.out.eq k hk] at bn
            have dg := PP.deg k hk HKS.out
            obtain ⟨c2, -⟩ := K4.out.pi.chip hk
            obtain ⟨y, hy⟩ : ∃ y, TpI Q sn (btX xs) (chF cs) os i k = y := ⟨_, rfl⟩
            rw [hy] at c2 bn
            have c0 := K4.out.pi.chs
            have CO := hide' (oftenX_any pb k Q sn (btX xs) y w4.drew (K4.out.pi.ground (k := 1) (by omega)) ((K4.out.pi.ground (k := 2 + k) (by omega)).trans (by rw [gdX_d Q sn _ l2])) l2 ⟨bn.1, by omega⟩ (fun _ => dg))
            have OP := hide' (of_pos (s := sn) (b := btX xs) (k := k) bn.1 (fun _ => dg))
            have OF := hide' (ofX_facts (s := sn) (b := btX xs) (k := k) (v := y) ⟨bn.1, by omega⟩ (fun _ => dg))
            have HY := hide' hy
            clear hs hin hk PP bn dg hy l2
            go_upto_region 10 with fail
            go_region_with (go_at_call 27; refine CO.out.mono ?_; rintro e w5 ⟨rfl, rfl⟩)
            all_goals
              obtain ⟨z, hz⟩ : ∃ z, ofX Q sn (btX xs) k y = z := ⟨_, rfl⟩
              have OZ := hide' (show (0 < z ↔ k ≠ sn ∧ smS Q (btX xs k) ≤ y) ∧ 0 ≤ z by have h1 := OP.out; have h2 := OF.out; rw [hz] at h1 h2; exact ⟨h1, h2.1⟩)
              rw [hz]
              clear hz c0 c2 l0 l1
              by_cases hz0 : z = 0
              · subst hz0
                have BAD := hide' (show TpO Q sn (btX xs) (chF cs) os 7 from Or.inr ⟨i, IL.out, KI.out.ok, Or.inr ⟨RG.out, by
                  rw [ET.out, HY.out]
                  rcases Int.lt_or_le y (smS Q (btX xs k)) with h | h
                  · exact h
                  · exact absurd (OZ.out.1.2 ⟨HKS.out, h⟩) (by omega), rfl⟩⟩)
                go_wp2
                go_ret2
                rw [← E7.out]
                exact TopX.order K4.out.bl.drew HQs.out.1 HQs.out.2 GG.out (by decide) BAD.out
              · have e2 : (z == 0) = false := by simp [hz0]
                have GD := hide' (show gdO Q sn (btX xs) (chF cs) os i from ⟨RG.out, by rw [ET.out, HY.out]; exact (OZ.out.1.1 (by have := OZ.out.2; omega)).2⟩)
                clear hz0
                have PP := GG.out.pile
                have CT := hide' (topple_any pb ca' q ta Q sn k 1 (btX xs) (TpI Q sn (btX xs) (chF cs) os i) u w4.drew (K4.out.pi.on rfl rfl rfl) GG.out.ok.p2 HK.out ⟨by omega, by omega⟩ ⟨smS_nonneg fun j _ => PP.gr.pos k j, GG.out.ok.deg4 k⟩
                  (fun j => ⟨by unfold gvS; split; exact PP.gr.pos k j; exact Int.le_refl _, by
                    unfold gvS
                    split
                    · rename_i hj; exact smS_one (fun i _ => PP.gr.pos k i) hj.1
                    · exact smS_nonneg fun i _ => PP.gr.pos k i⟩)
                  (by have := GG.out.ok.deg4 k; omega) (fun j hj => by rw [K4.out.eq j hj]; exact ch_facts PP K4.out.pl j hj) ⟨K4.out.pl.pos k HK.out, by have := u_facts PP K4.out.pl k HK.out; omega⟩)
                have PGR := hide' PP.gr
                clear PP
                go_wp2_with fail
                refine CT.out.mono ?_
                rintro e w6 ⟨rfl, p6, t6⟩
                have K6 := hide' (show PlT w P Q sn xs cs os ea n c pb ca' q ta (i + 1) (upS u k 1) w6 from by
                  obtain ⟨q1, q2⟩ := law_step PGR.out K4.out.pl K4.out.eq HK.out HKS.out (by have := GD.out.2; rw [ET.out] at this; exact this)
                  have eT : TpI Q sn (btX xs) (chF cs) os (i + 1) = tpF Q sn (btX xs) (TpI Q sn (btX xs) (chF cs) os i) k 1 := by
                    show tpF Q sn (btX xs) (TpI Q sn (btX xs) (chF cs) os i) (os.getD i 0).toNat 1 = _
                    rw [ET.out]
                  have gw := GW.out
                  refine ⟨K4.out.bl.drew.trans ⟨t6.1, t6.2.1, t6.2.2.1, by rw [t6.2.2.2.1]; exact Nat.le_refl _, fun j hj => t6.2.2.2.2 j (by omega) (by omega)⟩, (t6.2.2.2.2 _ (by omega) (by omega)).trans K4.out.gr, IL.out, fun m hm => ?_, q1, fun j hj => ?_, ?_⟩
                  · by_cases e : m = i
                    · rw [e]; exact GD.out
                    · exact K4.out.ok m (by omega)
                  · rw [eT]; exact q2 j hj
                  · rw [eT]
                    exact p6.same (fun _ _ => rfl) fun j _ => by
                      unfold upI upS
                      by_cases e : j = k
                      · rw [if_pos e, if_pos e, e]
                      · rw [if_neg e, if_neg e])
                clear p6 t6
                go_wp2
                exact ⟨⟨i + 1, _, by go_num, by omega, K6⟩, by simp [intOf]; omega⟩
        · rw [inB_no hin]
          have BAD := hide' (show TpO Q sn (btX xs) (chF cs) os 1 from Or.inr ⟨i, IL.out, KI.out.ok, Or.inl ⟨fun h => by have h1 := h.1; have h2 := h.2.1; rw [EQ.out] at h1 h2; exact hin ⟨h1, by have := HQs.out.1; omega⟩, rfl⟩⟩)
          clear hin
          go_wp2
          go_ret2
          rw [← E1.out]
          exact TopX.order K4.out.bl HQs.out.1 HQs.out.2 GG.out (by decide) BAD.out
      · obtain rfl : i = om := by omega
        have c0 := KI.out.pi.chs
        have FIN := hide' (show TpO Q sn (btX xs) (chF cs) os 0 from Or.inl ⟨rfl, fun m hm => KI.out.ok m (by have := HM.out; omega)⟩)
        have RW := hide' (show RowAt wr ca' Q (TpI Q sn (btX xs) (chF cs) os os.length) by have := KI.out.pi.ch; rw [HM.out] at this; exact this)
        have gw := GW.out
        go_wp2
        go_ret2
        exact ⟨KI.out.bl, 0, Or.inr ⟨Q, sn, HQs.out.1, HQs.out.2, GG.out, FIN.out, Or.inr ⟨rfl, ca', q, rfl, RW.out, by omega⟩⟩⟩
  · rw [errOf_not h0]
    have ER := hide' (errOf_not h0)
    have H0 := hide' h0
    clear h0
    go_wp2
    go_ret2
    exact ⟨B2.out, f, Or.inl ⟨H0.out, HF.out, by rw [ER.out]; rfl⟩⟩
end Go.Proofs.YtpajdmhgonmgoaaDoor

namespace Go.Proofs.YtpajdmhgonmgoaaDoor
open Go.RowKit Go.Extern.Stop Go.Stop Go.Extern

theorem valueOfP (t : Addr) (w : World) : (ReflectliteValue.unpack (.iface 72 (.pointer (some t)))).run Tryd.prog w
    = .ok (.agg #[.pointer (some ⟨1, 72, none⟩), .pointer (some ⟨w.heap.size, 0, none⟩), .int .u64 150]) (w.alloc (.cells #[.pointer (some t)] 72)) := by kernel_rfl
theorem typeP (a : Addr) (w : World) : (ReflectliteValue.methodAny (ReflectliteValue.valueError "reflectlite.Value.Type" 0) (fun t _ _ _ => ReflectliteType.toType t) #[.agg #[.pointer (some ⟨1, 72, none⟩), .pointer (some a), .int .u64 150]]).run Tryd.prog w
    = .ok (.iface 134 (.agg #[.pointer (some ⟨1, 72, none⟩)])) w := by kernel_rfl
theorem kindP (w : World) : ((ReflectliteType.abiMethod fun t => Functor.map (fun a : Nat => Value.int IntKind.u8 (a : Int)) (Rtype.kind t)) #[.pointer (some ⟨1, 72, none⟩)]).run Tryd.prog w = .ok (.int .u8 22) w := by kernel_rfl
theorem kindE (w : World) : ((ReflectliteType.abiMethod fun t => Functor.map (fun a : Nat => Value.int IntKind.u8 (a : Int)) (Rtype.kind t)) #[.pointer (some ⟨1, 48, none⟩)]).run Tryd.prog w = .ok (.int .u8 2) w := by kernel_rfl
theorem methodKind (h : Value) (w : World) : (Go.method 282 134 (.agg #[h]) "Kind").run Tryd.prog w = .ok (92, h) w := by kernel_rfl

theorem rlm (z : Sem Value) (f : TypeId → Addr → Nat → Nat → Sem Value) (v : Value) :
    ReflectliteValue.method z f #[v] = (do match ← ReflectliteValue.parts v with | none => z | some (t, a, fl) => f t a fl (fl % 32)) := rfl
theorem partsP (a : Addr) (w : World) : (ReflectliteValue.parts (.agg #[.pointer (some ⟨1, 72, none⟩), .pointer (some a), .int .u64 150])).run Tryd.prog w = .ok (some (72, a, 150)) w := by kernel_rfl
theorem isNilP (a p : Addr) (W : World) (ha : W.cell? a = some (.pointer (some p))) :
    (ReflectliteValue.method (ReflectliteValue.valueError "reflectlite.Value.IsNil" 0) ReflectliteValue.isNil #[.agg #[.pointer (some ⟨1, 72, none⟩), .pointer (some a), .int .u64 150]]).run Tryd.prog W = .ok (.bool false) W := by
  rw [rlm]
  simp only [Sem.run_bind, partsP, Result.andThen]
  simp [ReflectliteValue.isNil, loadVar, isAgg, underlying, Tryd.underlying72, ha, Result.andThen]

theorem methodElem (h : Value) (w : World) : (Go.method 282 134 (.agg #[h]) "Elem").run Tryd.prog w = .ok (102, .agg #[h]) w := by kernel_rfl
theorem methodImplements (h : Value) (w : World) : (Go.method 282 134 (.agg #[h]) "Implements").run Tryd.prog w = .ok (103, .agg #[h]) w := by kernel_rfl
theorem methodAssignableTo (h : Value) (w : World) : (Go.method 282 134 (.agg #[h]) "AssignableTo").run Tryd.prog w = .ok (100, .agg #[h]) w := by kernel_rfl
theorem elemP (w : World) : (ReflectliteType.method ReflectliteType.elem #[.agg #[.pointer (some ⟨1, 72, none⟩)]]).run Tryd.prog w = .ok (.iface 134 (.agg #[.pointer (some ⟨1, 48, none⟩)])) w := by kernel_rfl
theorem implementsE (w : World) : (ReflectliteType.relation "Implements" ReflectliteType.implements_ #[.agg #[.pointer (some ⟨1, 48, none⟩)], .iface 134 (.agg #[.pointer (some ⟨1, 28, none⟩)])]).run Tryd.prog w = .ok (.bool true) w := by kernel_rfl
theorem typeOfE (v : Value) (w : World) : (ReflectliteType.typeOf #[.iface 48 v]).run Tryd.prog w = .ok (.iface 134 (.agg #[.pointer (some ⟨1, 48, none⟩)])) w := by kernel_rfl
theorem assignableE (w : World) : (ReflectliteType.relation "AssignableTo" ReflectliteType.assignableTo #[.agg #[.pointer (some ⟨1, 48, none⟩)], .iface 134 (.agg #[.pointer (some ⟨1, 48, none⟩)])]).run Tryd.prog w = .ok (.bool true) w := by kernel_rfl
theorem valueOfE (n : Int) (w : World) : (ReflectliteValue.unpack (.iface 48 (.int .i64 n))).run Tryd.prog w
    = .ok (.agg #[.pointer (some ⟨1, 48, none⟩), .pointer (some ⟨w.heap.size, 0, none⟩), .int .u64 130]) (w.alloc (.cells #[.int .i64 n] 48)) := by kernel_rfl
theorem elemOfP (w : World) : (Rtype.elem? 72).run Tryd.prog w = .ok (some 48) w := by kernel_rfl
theorem mkE (p : Addr) (w : World) : (ReflectliteValue.mk 48 p ReflectliteValue.flagAddr).run Tryd.prog w = .ok (.agg #[.pointer (some ⟨1, 48, none⟩), .pointer (some p), .int .u64 386]) w := by kernel_rfl
theorem elemVP (a p : Addr) (W : World) (ha : W.cell? a = some (.pointer (some p))) :
    (ReflectliteValue.method (ReflectliteValue.valueError "reflectlite.Value.Elem" 0) ReflectliteValue.elem #[.agg #[.pointer (some ⟨1, 72, none⟩), .pointer (some a), .int .u64 150]]).run Tryd.prog W
      = .ok (.agg #[.pointer (some ⟨1, 48, none⟩), .pointer (some p), .int .u64 386]) W := by
  rw [rlm]
  simp only [Sem.run_bind, partsP, Result.andThen]
  simp [ReflectliteValue.elem, loadVar, isAgg, underlying, Tryd.underlying72, ha, Result.andThen, elemOfP, mkE]
theorem rls (v x : Value) : ReflectliteValue.set #[v, x] = (do
    let (some (dst, a, fl), some (src, b, _)) := (← ReflectliteValue.parts v, ← ReflectliteValue.parts x)
      | unsupported (.noEntry "extern/(internal/reflectlite.Value).Set.zeroValue")
    if fl / ReflectliteValue.flagAddr % 2 == 0 then unsupported (.noEntry "extern/(internal/reflectlite.Value).Set.unaddressable")
    let val ← loadVar src b
    if ← Rtype.directlyAssignable dst src then storeVar dst a val
    else if ← Rtype.implements dst src then
      if (← Rtype.kind src) == 20 then
        match val with
        | .nilIface => unsupported (.noEntry "extern/reflectlite: a nil value of one interface type handed on as a value of another")
        | _ => storeVar dst a val
      else storeVar dst a (.iface src val)
    else panicString ("reflectlite.Set: value of type " ++ (← Rtype.spelt src) ++ " is not assignable to type " ++ (← Rtype.spelt dst))
    pure (.tuple #[])) := rfl
theorem partsEa (a : Addr) (w : World) : (ReflectliteValue.parts (.agg #[.pointer (some ⟨1, 48, none⟩), .pointer (some a), .int .u64 386])).run Tryd.prog w = .ok (some (48, a, 386)) w := by kernel_rfl
theorem partsE (a : Addr) (w : World) : (ReflectliteValue.parts (.agg #[.pointer (some ⟨1, 48, none⟩), .pointer (some a), .int .u64 130])).run Tryd.prog w = .ok (some (48, a, 130)) w := by kernel_rfl
theorem directE (w : World) : (Rtype.directlyAssignable 48 48).run Tryd.prog w = .ok true w := by kernel_rfl
theorem setE (ta b : Addr) (n : Int) (old : Value) (W : World) (hb : W.cell? b = some (.int .i64 n)) (ht : W.cell? ta = some old) (hf : W.frozen? ta = false) :
    (ReflectliteValue.set #[.agg #[.pointer (some ⟨1, 48, none⟩), .pointer (some ta), .int .u64 386], .agg #[.pointer (some ⟨1, 48, none⟩), .pointer (some b), .int .u64 130]]).run Tryd.prog W
      = .ok (.tuple #[]) (W.setCell ta (.int .i64 n)) := by
  rw [rls]
  simp only [Sem.run_bind, partsEa, partsE, Result.andThen]
  simp [ReflectliteValue.flagAddr, loadVar, isAgg, underlying, Tryd.underlying48, hb, Result.andThen, directE, storeVar, Value.cells, storeCells, Addr.add]
  rw [run_store Tryd.prog W ta _ _ (by rfl)]
  simp [ht, hf]

set_option maxRecDepth 100000 in
set_option maxHeartbeats 4000000 in
/-- errors.As of an Errno, the target a variable of type Errno: true, and it holds the number. -/
theorem as_hit (n : Int) (t : Addr) (old : Value) (w : World) (hg : w.cell? ⟨0, 0, none⟩ = some (.iface 134 (.agg #[.pointer (some ⟨1, 28, none⟩)]))) (ht0 : w.cell? t = some old) (hf0 : w.frozen? t = false) :
    Calls Tryd.prog 30 #[.iface 48 (.int .i64 n), .iface 72 (.pointer (some t))] w fun ev w' => ev = .returned (.bool true) ∧ w' = ((((w.alloc (.cells #[.pointer (some t)] 72)).alloc (.cells #[.pointer (some ⟨1, 72, none⟩), .pointer (some ⟨w.heap.size, 0, none⟩), .int .u64 150] 103)).alloc (.cells #[.pointer (some ⟨1, 72, none⟩), .pointer (some ⟨w.heap.size, 0, none⟩), .int .u64 150] 103)).alloc (.cells #[.int .i64 n] 48)).setCell t (.int .i64 n) := by
  have h6 := @run_callFunc_extern Tryd.prog 44 _ (fun args => ReflectliteValue.unpack (args.getD 0 (.tuple #[]))) Tryd.func44 (by kernel_rfl) (by kernel_rfl) (by kernel_rfl) (by kernel_rfl)
  have h7 := @run_callFunc_extern Tryd.prog 45 _ (ReflectliteValue.methodAny (ReflectliteValue.valueError "reflectlite.Value.Type" 0) (fun t _ _ _ => ReflectliteType.toType t)) Tryd.func45 (by kernel_rfl) (by kernel_rfl) (by kernel_rfl) (by kernel_rfl)
  have h8 := @run_callFunc_extern Tryd.prog 46 _ (ReflectliteValue.method (ReflectliteValue.valueError "reflectlite.Value.IsNil" 0) ReflectliteValue.isNil) Tryd.func46 (by kernel_rfl) (by kernel_rfl) (by kernel_rfl) (by kernel_rfl)
  have h27 := @run_callFunc_extern Tryd.prog 92 _ (ReflectliteType.abiMethod fun t => do pure (.int .u8 (← Rtype.kind t))) Tryd.func92 (by kernel_rfl) (by kernel_rfl) (by kernel_rfl) (by kernel_rfl)
  have h37 := @run_callFunc_extern Tryd.prog 102 _ (ReflectliteType.method ReflectliteType.elem) Tryd.func102 (by kernel_rfl) (by kernel_rfl) (by kernel_rfl) (by kernel_rfl)
  have h38 := @run_callFunc_extern Tryd.prog 103 _ (ReflectliteType.relation "Implements" ReflectliteType.implements_) Tryd.func103 (by kernel_rfl) (by kernel_rfl) (by kernel_rfl) (by kernel_rfl)
  have h10 := @run_callFunc_extern Tryd.prog 70 _ ReflectliteType.typeOf Tryd.func70 (by kernel_rfl) (by kernel_rfl) (by kernel_rfl) (by kernel_rfl)
  have h35 := @run_callFunc_extern Tryd.prog 100 _ (ReflectliteType.relation "AssignableTo" ReflectliteType.assignableTo) Tryd.func100 (by kernel_rfl) (by kernel_rfl) (by kernel_rfl) (by kernel_rfl)
  have h11 := @run_callFunc_extern Tryd.prog 71 _ (ReflectliteValue.method (ReflectliteValue.valueError "reflectlite.Value.Elem" 0) ReflectliteValue.elem) Tryd.func71 (by kernel_rfl) (by kernel_rfl) (by kernel_rfl) (by kernel_rfl)
  have h12 := @run_callFunc_extern Tryd.prog 72 _ ReflectliteValue.set Tryd.func72 (by kernel_rfl) (by kernel_rfl) (by kernel_rfl) (by kernel_rfl)
  have tO := typeOfE
  have mA := methodAssignableTo
  have a25 := assignableE
  have v25 := valueOfE
  have f6 := valueOfP
  have f7 := typeP
  have mK := methodKind
  have mE := methodElem
  have mI := methodImplements
  have k27 := kindP
  have k25 := kindE
  have e27 := elemP
  have i25 := implementsE
  have n8 := isNilP ⟨w.heap.size, 0, none⟩ t ((w.alloc (.cells #[.pointer (some t)] 72)).alloc (.cells #[.pointer (some ⟨1, 72, none⟩), .pointer (some ⟨w.heap.size, 0, none⟩), .int .u64 150] 103)) (by simp)
  have hlt : 0 < w.heap.size := by
    rcases Nat.lt_or_ge 0 w.heap.size with h | h
    · exact h
    · simp [World.cell?, Array.getElem?_eq_none h] at hg
  have hg2 : ((w.alloc (.cells #[.pointer (some t)] 72)).alloc (.cells #[.pointer (some ⟨1, 72, none⟩), .pointer (some ⟨w.heap.size, 0, none⟩), .int .u64 150] 103)).cell? ⟨0, 0, none⟩ = some (.iface 134 (.agg #[.pointer (some ⟨1, 28, none⟩)])) := by
    rw [World.cell?_alloc_lt _ _ ⟨0, 0, none⟩ (by simp <;> omega), World.cell?_alloc_lt _ _ ⟨0, 0, none⟩ hlt]; exact hg
  have htl : t.block < w.heap.size := by
    rcases Nat.lt_or_ge t.block w.heap.size with h | h
    · exact h
    · simp [World.cell?, Array.getElem?_eq_none h] at ht0
  have el := elemVP ⟨w.heap.size, 0, none⟩ t (((w.alloc (.cells #[.pointer (some t)] 72)).alloc (.cells #[.pointer (some ⟨1, 72, none⟩), .pointer (some ⟨w.heap.size, 0, none⟩), .int .u64 150] 103)).alloc (.cells #[.pointer (some ⟨1, 72, none⟩), .pointer (some ⟨w.heap.size, 0, none⟩), .int .u64 150] 103)) (by rw [World.cell?_alloc_lt _ _ ⟨w.heap.size, 0, none⟩ (by simp; omega)]; simp)
  have st := setE t ⟨w.heap.size + 1 + 1 + 1, 0, none⟩ n old ((((w.alloc (.cells #[.pointer (some t)] 72)).alloc (.cells #[.pointer (some ⟨1, 72, none⟩), .pointer (some ⟨w.heap.size, 0, none⟩), .int .u64 150] 103)).alloc (.cells #[.pointer (some ⟨1, 72, none⟩), .pointer (some ⟨w.heap.size, 0, none⟩), .int .u64 150] 103)).alloc (.cells #[.int .i64 n] 48))
    (by rw [World.cell?_alloc_at _ _ _ _ (by simp)]; rfl)
    (by rw [World.cell?_alloc_lt _ _ t (by simp; omega), World.cell?_alloc_lt _ _ t (by simp; omega), World.cell?_alloc_lt _ _ t (by simp; omega), World.cell?_alloc_lt _ _ t htl]; exact ht0)
    (by rw [World.frozen?_alloc_old _ _ t (by simp; omega), World.frozen?_alloc_old _ _ t (by simp; omega), World.frozen?_alloc_old _ _ t (by simp; omega), World.frozen?_alloc_old _ _ t (Nat.ne_of_lt htl)]; exact hf0)
  go_enter Tryd.func30, Tryd.ntmps30
  go_wp2
  refine wp_loop_rounds 1 ?_
  rw [rounds_succ]
  go_wp2
  go_ret
  exact ⟨rfl, rfl⟩
end Go.Proofs.YtpajdmhgonmgoaaDoor

namespace Go.Proofs.YtpajdmhgonmgoaaDoor
open Go.RowKit

theorem told_nil (w : World) :
    Calls Tryd.prog 18 #[.nilIface] w fun e w' => e = .returned (.int .i64 0) ∧ w' = w := by
  go_enter Tryd.func18, Tryd.ntmps18
  go_wp2
  go_ret
  exact ⟨rfl, rfl⟩

/-- The cell of errors.errorType holds the handle of the type error. -/
def Handle (w : World) : Prop := w.cell? ⟨0, 0, none⟩ = some (.iface 134 (.agg #[.pointer (some ⟨1, 28, none⟩)]))

theorem Handle.lt {w : World} (hg : Handle w) : 0 < w.heap.size := by
  unfold Handle at hg
  rcases Nat.lt_or_ge 0 w.heap.size with h | h
  · exact h
  · simp [World.cell?, Array.getElem?_eq_none h] at hg

theorem Handle.below {w w' : World} (hg : Handle w) (h : Below w.heap.size w w') : Handle w' := by
  have := hg.lt
  unfold Handle at hg ⊢
  rw [h.cell (p := ⟨0, 0, none⟩) this]; exact hg

set_option maxHeartbeats 1000000 in
theorem told_errno (n : Int) (w : World) (hg : Handle w) :
    Calls Tryd.prog 18 #[.iface 48 (.int .i64 n)] w fun e w' => e = .returned (.int .i64 n) ∧ Below w.heap.size w w' := by
  have hlt := hg.lt
  have hgA : (w.alloc (.cells #[.int .i64 0] 48)).cell? ⟨0, 0, none⟩ = some (.iface 134 (.agg #[.pointer (some ⟨1, 28, none⟩)])) := by
    rw [World.cell?_alloc_lt _ _ ⟨0, 0, none⟩ hlt]; exact hg
  have htA : (w.alloc (.cells #[.int .i64 0] 48)).cell? ⟨w.heap.size, 0, none⟩ = some (.int .i64 0) := by simp
  have hfA : (w.alloc (.cells #[.int .i64 0] 48)).frozen? ⟨w.heap.size, 0, none⟩ = false := by simp
  clear hg hlt
  go_enter Tryd.func18, Tryd.ntmps18
  go_wp2_with (go_at_call 30; refine (as_hit _ _ (.int .i64 0) _ hgA htA hfA).mono ?_; rintro e w' ⟨rfl, rfl⟩)
  go_ret
  refine ⟨rfl, ?_⟩
  repeat (first | exact Below.refl _ _ | refine Below.setCell ?_ (by simp) _ | refine Below.alloc ?_ (by simp; try omega) _)

set_option maxHeartbeats 400000 in
theorem error_nil (n : Int) (w : World) :
    Calls Tryd.prog 7 #[.nilIface, .int .i64 n] w fun e w' => e = .returned (.bool (0 == n)) ∧ w' = w := by
  go_enter Tryd.func7, Tryd.ntmps7
  go_wp2_with (go_at_call 18; refine (told_nil _).mono ?_; rintro e w' ⟨rfl, rfl⟩)
  go_ret
  exact ⟨rfl, rfl⟩

set_option maxHeartbeats 400000 in
theorem error_errno (k n : Int) (w : World) (hg : Handle w) :
    Calls Tryd.prog 7 #[.iface 48 (.int .i64 k), .int .i64 n] w fun e w' => e = .returned (.bool (k == n)) ∧ Below w.heap.size w w' := by
  go_enter Tryd.func7, Tryd.ntmps7
  go_wp2_with (go_at_call 18; refine (told_errno k _ hg).mono ?_; rintro e w' ⟨rfl, hb⟩)
  go_ret
  exact ⟨rfl, hb⟩
end Go.Proofs.YtpajdmhgonmgoaaDoor

namespace Go.Proofs.YtpajdmhgonmgoaaDoor
open Go.RowKit
set_option linter.unusedVariables false
theorem errSameC_any (s : Nat) (w : World) (hg : Handle w) : Calls Tryd.prog 7 #[errOf s, .int .i64 (s : Int)] w fun e w' => e = .returned (.bool true) ∧ Below w.heap.size w w' := by
  by_cases h : s = 0
  · subst h
    refine (error_nil 0 w).mono ?_
    rintro e w' ⟨rfl, rfl⟩
    exact ⟨rfl, Below.refl _ _⟩
  · have := error_errno (s : Int) (s : Int) w hg
    unfold errOf
    rw [if_neg h]
    refine this.mono ?_
    rintro e w' ⟨rfl, b⟩
    exact ⟨by simp, b⟩
end Go.Proofs.YtpajdmhgonmgoaaDoor

