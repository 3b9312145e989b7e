/-
  What the last text of this claim leans on, part 49: LawQ, OpenP, OpenQ.
-/
import Derived.Test.YtljdidimoagnhaaDoorJk46
import Derived.Test.YtljdidimoagnhaaDoorJk47
import Derived.Test.YtljdidimoagnhaaDoorJk48
import Derived.Test.YtljdidimoagnhaaDoorJk6
import Derived.Test.YtljdidimoagnhaaDoorRows
import Derived.Test.YtljdidimoagnhaaDoorCards
import Derived.Test.YtljdidimoagnhaaDoorTie
import Derived.Test.YtljdidimoagnhaaDoorJk36
import Derived.Test.YtljdidimoagnhaaDoorJk9
import Derived.ProofKit
import Derived.OpenShut
import Derived.ChangeSame
import Derived.ChangeSlices
import Derived.ChangeVars
import Derived.JoinedOf
import Derived.RowKit
import Derived.RowKitTokens
import Derived.LaidLaws
import Derived.LaidHandle
import Derived.LaidSub
import Derived.Lay
import Derived.Carry
import Derived.Stop.Joined
import Derived.SevenTiedAt
namespace Go.Proofs.YtljdidimoagnhaaDoor
open Go.RowKit
set_option linter.unusedVariables false

theorem argR_of {w : World} {o : Out} {a : Option Addr} {n c : Nat} (h : ArgP w o.table a n c) (ht : o.turns.size ≤ maxLen) (hr : o.radius ≤ 9223372036854775807) : ArgR w o a n c := ⟨h.len, h.max, ht, h.cells, hr⟩
theorem argP_nil (w : World) (a : Option Addr) (c : Nat) : ArgP w [] a 0 c := ⟨rfl, by simp, fun k hk => absurd hk (by simp)⟩

theorem law_rback_life (b t : Nat) (hb : b < 512) (ht : t < 512) (ra : Option Addr) (rc : Nat) (ws : List Int) (wa : Option Addr) (wc : Nat) (w : World) (hR : ArgR w ⟨1, b, t, 0, 0, [], ⟨#[]⟩⟩ ra 0 rc) (hW : ArgP w ws wa ws.length wc) :
    Calls Tryd.prog 5 #[.agg #[.int .i64 1, .int .i64 (b : Int), .int .i64 (t : Int), .int .i64 0, .int .i64 0, .slice ra 0 rc, .string ⟨#[]⟩], .slice wa ws.length wc] w fun e w' => e = .returned (.bool true) ∧ Below w.heap.size w w' := by
  have b1 : bitsB (b : Int) = true := by unfold bitsB; simp; omega
  have b2 : bitsB (t : Int) = true := by unfold bitsB; simp; omega
  have hg : Good ⟨1, b, t, 0, 0, [], ⟨#[]⟩⟩ := Or.inl ⟨rfl, b1, b2, by simp [noLineB], empty_none⟩
  have hm : ∀ wr (a : Option Addr) (c : Nat), Calls Tryd.prog 24 #[.agg #[.int .i64 1, .int .i64 (b : Int), .int .i64 (t : Int), .int .i64 0, .int .i64 0, .slice a 0 c, .string ⟨#[]⟩]] wr (RuleAns ⟨1, b, t, 0, 0, [], ⟨#[]⟩⟩ wr) := fun wr a c =>
    (Mirror_life ⟨1, b, t, 0, 0, [], ⟨#[]⟩⟩ a 0 c wr (argR_of (argP_nil wr a c) (Nat.zero_le _) (by simp)) hg rfl).mono fun e w' h => ⟨none, 0, h.1, argP_nil w' none 0, h.2⟩
  refine law_rback_ok_err ⟨1, b, t, 0, 0, [], ⟨#[]⟩⟩ ⟨1, b, t, 0, 0, [], ⟨#[]⟩⟩ ra rc ws wa wc w hR hW (txt ([66] ++ (dl b 9 ++ ([47, 83] ++ dl t 9)))) ?_ (life_back b t hb ht) ?_ (fun wr _ => hm wr ra rc) (fun wr a c _ => hm wr a c) 1 ?_
  · have := dl_len b 9
    have := dl_len t 9
    rw [txt_size]
    simp
    unfold maxLen
    omega
  · intro wr hbl
    refine (Print_life ⟨1, b, t, 0, 0, [], ⟨#[]⟩⟩ ra 0 rc wr (hR.below hbl) hg rfl (by simp) b1 b2).mono fun e w' h => ?_
    have e1 : ((((⟨#[66]⟩ : ByteArray) ++ ⟨(dl b 9).toArray⟩) ++ ⟨#[47, 83]⟩) ++ ⟨(dl t 9).toArray⟩) = txt ([66] ++ (dl b 9 ++ ([47, 83] ++ dl t 9))) := by
      simp only [txt, ByteArray.mk_append_mk]
      congr 1
      simp
    refine ⟨?_, h.2⟩
    rw [h.1]
    show Ending.returned (.tuple #[.string ((((⟨#[66]⟩ : ByteArray) ++ ⟨(dl b 9).toArray⟩) ++ ⟨#[47, 83]⟩) ++ ⟨(dl t 9).toArray⟩), .nilIface]) = _
    rw [e1]
  · intro wr hbl
    exact lineStep_off ⟨1, b, t, 0, 0, [], ⟨#[]⟩⟩ ra 0 rc (.slice wa ws.length wc) wr (hR.below hbl) (fun h => absurd h.2 (by simp))

theorem bt_range (t : ByteArray) (f : Nat → UInt8) (n i : Nat) (h : i < n) : bt ⟨((List.range n).map f).toArray⟩ i = (f i).toNat := by
  have hl : i < (⟨((List.range n).map f).toArray⟩ : ByteArray).size := by simp [ByteArray.size]; exact h
  unfold bt
  rw [dif_pos hl]
  show (ByteArray.get _ _ _).toNat = _
  simp [ByteArray.get]
def mirB (t : ByteArray) : ByteArray := ⟨((List.range t.size).map (mirU t)).toArray⟩
theorem mirB_size (t : ByteArray) : (mirB t).size = t.size := by
  show (((List.range t.size).map (mirU t)).toArray).size = t.size
  simp
theorem mirB_bt (t : ByteArray) (i : Nat) (h : i < t.size) : bt (mirB t) i = (mirU t i).toNat := bt_range t (mirU t) t.size i h
theorem mirB_ok {t : ByteArray} (h : turnsP t) : turnsP (mirB t) := by
  obtain ⟨h1, h2, h3⟩ := h
  refine ⟨by rw [mirB_size]; exact h1, by rw [mirB_size]; exact h2, fun i hi => ?_⟩
  rw [mirB_size] at hi
  unfold turnAt
  rw [mirB_bt t i hi]
  unfold mirU
  split
  · exact Or.inr rfl
  · exact Or.inl rfl
theorem mirB_mirB {t : ByteArray} (h : turnsP t) : mirB (mirB t) = t := by
  obtain ⟨l, rfl⟩ : ∃ l, t = txt l := ⟨t.data.toList, by cases t; rfl⟩
  show (⟨((List.range (mirB (txt l)).size).map (mirU (mirB (txt l)))).toArray⟩ : ByteArray) = ⟨l.toArray⟩
  congr 2
  rw [mirB_size, txt_size]
  apply List.ext_getElem (by simp)
  intro i h1 h2
  simp only [List.getElem_map, List.getElem_range]
  have hi : i < (txt l).size := by rw [txt_size]; exact h2
  have h3 := h.2.2 i hi
  have e : bt (txt l) i = (l[i]'h2).toNat := by
    unfold bt
    rw [dif_pos hi]
    show (ByteArray.get _ _ _).toNat = _
    simp [txt, ByteArray.get]
  unfold turnAt at h3
  unfold mirU
  rw [mirB_bt _ i hi]
  unfold mirU
  rcases h3 with q | q
  · rw [q]
    rw [e] at q
    apply UInt8.toNat_inj.1
    rw [q]
    rfl
  · rw [q]
    rw [e] at q
    apply UInt8.toNat_inj.1
    rw [q]
    rfl
theorem law_rback_turns (t : ByteArray) (ht : turnsP t) (ra : Option Addr) (rc : Nat) (ws : List Int) (wa : Option Addr) (wc : Nat) (w : World) (hR : ArgR w ⟨3, 0, 0, 0, 0, [], t⟩ ra 0 rc) (hW : ArgP w ws wa ws.length wc) :
    Calls Tryd.prog 5 #[.agg #[.int .i64 3, .int .i64 0, .int .i64 0, .int .i64 0, .int .i64 0, .slice ra 0 rc, .string t], .slice wa ws.length wc] w fun e w' => e = .returned (.bool true) ∧ Below w.heap.size w w' := by
  have hg : ∀ u, turnsP u → Good ⟨3, 0, 0, 0, 0, [], u⟩ := fun u hu => Or.inr (Or.inr ⟨rfl, hu, by simp [noLifeB], by simp [noLineB]⟩)
  have hm : ∀ u, turnsP u → ∀ wr (a : Option Addr) (c : Nat), Calls Tryd.prog 24 #[.agg #[.int .i64 3, .int .i64 0, .int .i64 0, .int .i64 0, .int .i64 0, .slice a 0 c, .string u]] wr (RuleAns ⟨3, 0, 0, 0, 0, [], mirB u⟩ wr) := fun u hu wr a c =>
    (Mirror_turns ⟨3, 0, 0, 0, 0, [], u⟩ a 0 c wr (argR_of (argP_nil wr a c) (by have := hu.2.1; show u.size ≤ maxLen; unfold maxLen; omega) (by simp)) (hg u hu) rfl hu.2.1).mono fun e w' h => ⟨none, 0, h.1, argP_nil w' none 0, h.2⟩
  refine law_rback_ok_err ⟨3, 0, 0, 0, 0, [], t⟩ ⟨3, 0, 0, 0, 0, [], mirB t⟩ ra rc ws wa wc w hR hW (⟨#[84, 32]⟩ ++ t) ?_ (turns_back t ht) ?_ (fun wr _ => hm t ht wr ra rc) (fun wr a c _ => ?_) 1 ?_
  · have := ht.2.1
    rw [ByteArray.size_append]
    show 2 + t.size ≤ maxLen
    unfold maxLen
    omega
  · intro wr hbl
    exact Print_turns ⟨3, 0, 0, 0, 0, [], t⟩ ra 0 rc wr (hR.below hbl) (hg t ht) rfl (by simp) (by have := ht.2.1; show 2 + t.size ≤ maxLen; unfold maxLen; omega)
  · have := hm (mirB t) (mirB_ok ht) wr a c
    rw [mirB_mirB ht] at this
    exact this
  · intro wr hbl
    exact lineStep_off ⟨3, 0, 0, 0, 0, [], t⟩ ra 0 rc (.slice wa ws.length wc) wr (hR.below hbl) (fun h => absurd h.2 (by simp))

theorem mirL_ok {S R : Nat} {T : List Int} (h : LineOk S R T) : LineOk S R (mirL S R T) := by
  have s2 := h.s2
  refine ⟨h.s2, h.s4, h.r10, mirL_length S R T, by rw [mirL_length, ← h.len]; exact h.max, fun x hx => ?_⟩
  simp only [mirL, List.mem_map] at hx
  obtain ⟨j, -, rfl⟩ := hx
  exact cellsOk_at h.ok (by rw [h.len]; exact rv_lt S (by omega) _ _)
theorem mirror_line (S R : Nat) (T : List Int) (hL : LineOk S R T) (wr : World) (a : Option Addr) (c : Nat) (hT : ArgP wr T a T.length c) :
    Calls Tryd.prog 24 #[.agg #[.int .i64 2, .int .i64 0, .int .i64 0, .int .i64 (S : Int), .int .i64 (R : Int), .slice a T.length c, .string ⟨#[]⟩]] wr (RuleAns ⟨2, 0, 0, S, R, mirL S R T, ⟨#[]⟩⟩ wr) := by
  have hg := line_good hL
  have r10 := hL.r10
  have hlp : lineP ⟨2, 0, 0, S, R, T, ⟨#[]⟩⟩ := by
    rcases hg with h | h | h
    · exact absurd h.1 (by simp)
    · exact h.2.1
    · exact absurd h.1 (by simp)
  refine (Mirror_line ⟨2, 0, 0, S, R, T, ⟨#[]⟩⟩ a T.length c wr (argR_of hT (Nat.zero_le _) (by show (R : Int) ≤ _; omega)) hg rfl hlp).mono fun e w' h => ?_
  obtain ⟨⟨g, e1, e2, e3⟩, hb⟩ := h
  have hl : (mirL S R T).length = T.length := by rw [mirL_length, hL.len]
  refine ⟨some ⟨g, 0, none⟩, T.length, ?_, ⟨rfl, ?_, fun k hk => ?_⟩, hb⟩
  · rw [e1]
    show _ = Ending.returned (.tuple #[.agg #[.int .i64 2, .int .i64 0, .int .i64 0, .int .i64 (S : Int), .int .i64 (R : Int), .slice (some ⟨g, 0, none⟩) (mirL S R T).length T.length, .string ⟨#[]⟩], .nilIface])
    rw [hl]
  · show (mirL S R T).length ≤ maxLen
    rw [hl]
    have := hL.max
    unfold maxLen
    omega
  · have hk' : k < T.length := by rw [← hl]; exact hk
    have hc := e3 k hk'
    refine ⟨g, 0, rfl, cell_block_lt hc, ?_⟩
    rw [Nat.zero_add, hc]
    congr 2
    have e4 : (mirL S R T)[k]'hk = (mirL S R T).getD k 0 := by rw [List.getD_eq_getElem?_getD, List.getElem?_eq_getElem hk]; rfl
    show mirT ⟨2, 0, 0, S, R, T, ⟨#[]⟩⟩ k = (mirL S R T)[k]'hk
    rw [e4, mirL_at S R T (by rw [← hL.len]; exact hk')]
    show T.getD (rv ((S : Int)).toNat (2 * ((R : Int)).toNat + 1) 0 k) 0 = _
    rw [Int.toNat_natCast, Int.toNat_natCast]
theorem lineB_size (S R : Nat) (T : List Int) (hL : LineOk S R T) (hr : R ≤ 2) : (lineB ⟨2, 0, 0, S, R, T, ⟨#[]⟩⟩).size ≤ maxLen := by
  have s4 := hL.s4
  have hm := hL.max
  unfold lineB
  dsimp only
  split
  · rename_i h
    simp at h
    have e1 : S = 2 := by omega
    subst e1
    have hl8 : T.length = 8 := by rw [hL.len, show R = 1 by omega]
    have hT : ∀ k, k < T.length → 0 ≤ T.getD k 0 ∧ T.getD k 0 < 2 := fun k hk => cellsOk_at hL.ok hk
    have h1 := tabNum_lt T hT 8 (by omega)
    have h2 := Lib.itoa_length_le (tabNum T 8 : Int) (by omega) (by omega)
    rw [ByteArray.size_append]
    show 1 + (Lib.itoa (tabNum T 8 : Int)).toArray.size ≤ maxLen
    rw [List.size_toArray]
    unfold maxLen
    omega
  · rw [Int.toNat_natCast, Int.toNat_natCast, dec_small S (by omega), dec_small R (by omega)]
    simp only [ByteArray.mk_append_mk]
    show Array.size _ ≤ maxLen
    simp
    unfold maxLen
    omega
theorem law_rback_line (S R : Nat) (T : List Int) (hL : LineOk S R T) (ra : Option Addr) (rc : Nat) (ws : List Int) (wa : Option Addr) (wc : Nat) (w : World) (hT : ArgP w T ra T.length rc) (hW : ArgP w ws wa ws.length wc) (hP : PowT w) :
    Calls Tryd.prog 5 #[.agg #[.int .i64 2, .int .i64 0, .int .i64 0, .int .i64 (S : Int), .int .i64 (R : Int), .slice ra T.length rc, .string ⟨#[]⟩], .slice wa ws.length wc] w fun e w' => e = .returned (.bool true) ∧ Below w.heap.size w w' := by
  have hg := line_good hL
  have s2 := hL.s2
  have r10 := hL.r10
  have hlp : lineP ⟨2, 0, 0, S, R, T, ⟨#[]⟩⟩ := by
    rcases hg with h | h | h
    · exact absurd h.1 (by simp)
    · exact h.2.1
    · exact absurd h.1 (by simp)
  have hR : ArgR w ⟨2, 0, 0, S, R, T, ⟨#[]⟩⟩ ra T.length rc := argR_of hT (Nat.zero_le _) (by show (R : Int) ≤ _; omega)
  have hM := fun wr (hb : Below w.heap.size w wr) => mirror_line S R T hL wr ra rc (hT.below hb)
  have hMM := fun wr (a : Option Addr) (c : Nat) (h : ArgP wr (mirL S R T) a (mirL S R T).length c) => by
    have := mirror_line S R (mirL S R T) (mirL_ok hL) wr a c h
    rw [mirL_mirL S R T (by omega) hL.len] at this
    exact this
  have hPO : R ≤ 2 → ∀ wr, Below w.heap.size w wr → Calls Tryd.prog 22 #[.agg #[.int .i64 2, .int .i64 0, .int .i64 0, .int .i64 (S : Int), .int .i64 (R : Int), .slice ra T.length rc, .string ⟨#[]⟩]] wr (TextAns (lineB ⟨2, 0, 0, S, R, T, ⟨#[]⟩⟩) wr) := fun hr wr hb =>
    Print_line ⟨2, 0, 0, S, R, T, ⟨#[]⟩⟩ ra T.length rc wr (hR.below hb) (hP.below hb) hg rfl (by show (R : Int) ≤ 2; omega) hlp
  have hPE : ¬ R ≤ 2 → ∀ wr, Below w.heap.size w wr → Calls Tryd.prog 22 #[.agg #[.int .i64 2, .int .i64 0, .int .i64 0, .int .i64 (S : Int), .int .i64 (R : Int), .slice ra T.length rc, .string ⟨#[]⟩]] wr (TextErr 4 wr) := fun hr wr hb =>
    Print_full ⟨2, 0, 0, S, R, T, ⟨#[]⟩⟩ ra T.length rc wr (hR.below hb) hg (by show 2 < (R : Int); omega)
  by_cases he : wordE S ws = 0
  · obtain ⟨hl, hok⟩ := wordE_zero he
    have hlen : (stepL S R T ws).length = ws.length := stepL_length _ _ _ _
    have hrev : cellsOk S ws.reverse := fun x hx => hok x (by simpa using hx)
    have hS := fun wr (hb : Below w.heap.size w wr) => lineStep_ok S R T ra T.length rc ws wa wc wr hL (hT.below hb) (hW.below hb) he
    have hSM := fun wr (a : Option Addr) (c : Nat) (wa' : Option Addr) (wc' : Nat) (h1 : ArgP wr (mirL S R T) a (mirL S R T).length c) (h2 : ArgP wr ws.reverse wa' ws.reverse.length wc') => by
      have := lineStep_ok S R (mirL S R T) a _ c ws.reverse wa' wc' wr (mirL_ok hL) h1 h2 (wordE_ok (by rw [List.length_reverse]; omega) hrev)
      rw [mirror_step S R T ws (by omega) hok] at this
      exact this
    have hF : ∀ wr, Below w.heap.size w wr → Calls Tryd.prog 29 #[.agg #[.int .i64 2, .int .i64 0, .int .i64 0, .int .i64 (S : Int), .int .i64 (R : Int), .slice ra T.length rc, .string ⟨#[]⟩], .slice wa ws.length wc] wr (FaultNo wr) := fun wr hb => by
      have := lineFault_line S R T ra T.length rc ws wa ws.length wc wr hL (hT.below hb) (hW.below hb)
      rw [he] at this
      exact this
    by_cases hr : R ≤ 2
    · exact law_rback_ok_ok ⟨2, 0, 0, S, R, T, ⟨#[]⟩⟩ ⟨2, 0, 0, S, R, mirL S R T, ⟨#[]⟩⟩ ra rc ws wa wc w hR hW _ (lineB_size S R T hL hr) (line_back S R T hL hr) (hPO hr) hM hMM hl _ _ _ rfl hlen rfl hS hSM hF
    · exact law_rback_err_ok ⟨2, 0, 0, S, R, T, ⟨#[]⟩⟩ ⟨2, 0, 0, S, R, mirL S R T, ⟨#[]⟩⟩ ra rc ws wa wc w hR hW 4 (hPE hr) hM hMM hl _ _ _ rfl hlen rfl hS hSM hF
  · have hS := fun wr (hb : Below w.heap.size w wr) => lineStep_word S R T ra T.length rc ws wa wc wr hL (hT.below hb) (hW.below hb) he
    by_cases hr : R ≤ 2
    · exact law_rback_ok_err ⟨2, 0, 0, S, R, T, ⟨#[]⟩⟩ ⟨2, 0, 0, S, R, mirL S R T, ⟨#[]⟩⟩ ra rc ws wa wc w hR hW _ (lineB_size S R T hL hr) (line_back S R T hL hr) (hPO hr) hM hMM _ hS
    · exact law_rback_err_err ⟨2, 0, 0, S, R, T, ⟨#[]⟩⟩ ⟨2, 0, 0, S, R, mirL S R T, ⟨#[]⟩⟩ ra rc ws wa wc w hR hW 4 (hPE hr) hM hMM _ hS
theorem law_rback_all (o : Out) (ra : Option Addr) (rc : Nat) (ws : List Int) (wa : Option Addr) (wc : Nat) (w : World) (hR : ArgR w o ra o.table.length rc) (hW : ArgP w ws wa ws.length wc) (hP : PowT w) :
    Calls Tryd.prog 5 #[.agg #[.int .i64 o.kind, .int .i64 o.born, .int .i64 o.stay, .int .i64 o.states, .int .i64 o.radius, .slice ra o.table.length rc, .string o.turns], .slice wa ws.length wc] w fun e w' => e = .returned (.bool true) ∧ Below w.heap.size w w' := by
  by_cases hg : Good o
  · by_cases h2 : o.kind = 2
    · obtain ⟨S, R, e, hL⟩ := good_line o hg h2
      have hT : ArgP w o.table ra o.table.length rc := ⟨hR.len, hR.max, hR.cells⟩
      obtain ⟨T, hTe⟩ : ∃ T, o.table = T := ⟨_, rfl⟩
      rw [hTe] at e hL hT
      subst e
      exact law_rback_line S R T hL ra rc ws wa wc w hT hW hP
    · obtain ⟨k, b, s, st, r, t, tu⟩ := o
      rcases hg with h | h | h
      · obtain ⟨h1, h3, h4, h5, h6⟩ := h
        dsimp only at h1 h3 h4 h5 h6 h2
        unfold bitsB at h3 h4
        unfold noLineB at h5
        simp at h3 h4 h5
        obtain ⟨⟨q1, q2⟩, q3⟩ := h5
        subst h1 q1 q2 q3
        rw [empty_bytes tu h6] at hR ⊢
        obtain ⟨b, rfl⟩ := Int.eq_ofNat_of_zero_le h3.1
        obtain ⟨s, rfl⟩ := Int.eq_ofNat_of_zero_le h4.1
        exact law_rback_life b s (by omega) (by omega) ra rc ws wa wc w hR hW
      · exact absurd h.1 h2
      · obtain ⟨h1, h3, h4, h5⟩ := h
        dsimp only at h1 h3 h4 h5 h2
        unfold noLifeB at h4
        unfold noLineB at h5
        simp at h4 h5
        obtain ⟨⟨q1, q2⟩, q3⟩ := h5
        obtain ⟨q4, q5⟩ := h4
        subst h1 q1 q2 q3 q4 q5
        exact law_rback_turns tu h3 ra rc ws wa wc w hR hW
  · exact law_rback_err_bad o ra rc ws wa wc w hR hW 1 (fun wr hb => Print_bad o ra _ rc wr (hR.below hb) hg) (fun wr hb => Mirror_bad o ra _ rc wr (hR.below hb) hg)
end Go.Proofs.YtljdidimoagnhaaDoor

namespace Go.Proofs.YtljdidimoagnhaaDoor
open Go.ChangeShapes Go.WideShapes Go.ChangeAt Go.RowKit
open Go.ChangeMaps (setBlock shut_map_nil open_string shut_string keptBut_setBlock frozen?_setBlock heap_setBlock_same)
set_option linter.unusedVariables false

theorem laidOutP : laidOutB Tryd.prog = true := by kernel_rfl
theorem ownP : ownKnob Tryd.prog.godebug = none := by kernel_rfl
theorem errorTypeAtP : Tryd.prog.globalNamed "errors.errorType" = some 0 := by kernel_rfl
theorem rtypeAtP : (Tryd.prog.cutTypes.find? (·.1 == "internal/reflectlite.rtype")).map (·.2) = some 231 := by kernel_rfl
theorem oneRowP : ((List.range 283).filter fun t => Tryd.prog.rowNamed t [101, 114, 114, 111, 114]) = [26] := by kernel_rfl
theorem typesSizeP : Tryd.prog.types.size = 283 := by kernel_rfl

/-- What the condition on the listed variable gives a walk: its one cell. -/
theorem handle_laid {W : World} (h : handlesMet Tryd.prog [("errors.errorType", Rows.laid_errors_errorType)] W) : Handle W := by
  obtain ⟨name, u, ty, e1, e2, e3, e4, e5⟩ := h _ (List.mem_singleton.2 rfl)
  have en : name = [101, 114, 114, 111, 114] := (Option.some.inj e1).symm
  subst en
  obtain rfl := Option.some.inj (rtypeAtP.symm.trans e2)
  have hm : ty ∈ (List.range 283).filter fun t => Tryd.prog.rowNamed t [101, 114, 114, 111, 114] := List.mem_filter.2 ⟨List.mem_range.2 (by rw [← typesSizeP]; exact e3), e4⟩
  rw [oneRowP] at hm
  obtain rfl := List.mem_singleton.1 hm
  have hh : typeHandle Tryd.prog 26 = .pointer (some ⟨4, 26, none⟩) := by kernel_rfl
  rw [hh] at e5
  simpa [Handle] using World.var?_cell errorTypeAtP e5 0

/-- The variable's cell laid. -/
def layBlockP (o : Obj) : Obj := match o with
  | .cells _ t frozen => .cells #[.iface 231 (.agg #[.pointer (some ⟨4, 26, none⟩)])] t frozen
  | o => o
def layWorldP (w : World) : World := { w with heap := w.heap.modify 0 layBlockP }

/-- A list of ints as it is read. -/
theorem ints_arg {H : Type} {enc : TypeId × Value → H} {W : World} {fuel : Nat} {cs : List Value} {x : DataW H × List MemPlace}
    (h : DataW.trod enc Tryd.prog W 0 (fun _ => true) true fuel 22 cs = some x) :
    ∃ (xs : List Int) (a : Option Addr) (c : Nat), cs = [.slice a xs.length c] ∧ ArgP W xs a xs.length c ∧ xs.length ≤ c ∧ c ≤ maxLen := by
  have q3 : Tryd.prog.cellsOf 3 = 1 := by kernel_rfl
  rcases open_ints Tryd.underlying22 Tryd.underlying3 q3 h with ⟨rfl, -⟩ | ⟨a, len, cap, zs, rfl, hb, hlc, hcm, hzl, -, hcell, hwf⟩
  · exact ⟨[], none, 0, rfl, ⟨rfl, by simp, fun k hk => absurd hk (by simp)⟩, by simp, by simp⟩
  · simp only [if_true] at hzl
    have hl : (zs.take len).length = len := by simp; omega
    refine ⟨zs.take len, some a, cap, by rw [hl], ⟨rfl, by omega, fun k hk => ?_⟩, by omega, hcm⟩
    have hk' : k < len ∧ k < zs.length := by simp only [List.length_take] at hk; omega
    have hc0 := hcell 0 (by omega)
    have hck := hcell k hk'.2
    obtain ⟨g, off, sp⟩ := a
    have hsp : sp = none := by
      cases sp with
      | none => rfl
      | some q =>
        exfalso
        simp [Addr.add, World.cell?] at hc0
        split at hc0 <;> simp at hc0
    subst hsp
    have ea : (⟨g, off, none⟩ : Addr).add k = ⟨g, off + k, none⟩ := by
      unfold Addr.add
      split
      · rename_i hz; subst hz; rfl
      · rfl
    rw [ea] at hck
    refine ⟨g, off, rfl, ?_, ?_⟩
    · rcases Nat.lt_or_ge g W.heap.size with q | q
      · exact q
      · simp [World.cell?, Array.getElem?_eq_none q] at hck
    · rw [hck]
      simp [List.getD, hk'.2]

set_option maxRecDepth 100000 in
/-- A pattern that came in. -/
theorem open_pattern {H : Type} {enc : TypeId × Value → H} {W : World} {base : Nat} {v : Value} {d : DataW H} {p : List MemPlace}
    (hv : Value.okWide Tryd.prog W .any base 51 v) (h : DataW.Trod enc Tryd.prog W 0 (fun _ => true) true 51 v d p) :
    ∃ (w h : Int) (xs : List Int) (a : Option Addr) (c : Nat), v = .agg #[.int .i64 w, .int .i64 h, .slice a xs.length c] ∧ ArgP W xs a xs.length c ∧ xs.length ≤ c ∧ c ≤ maxLen := by
  obtain ⟨cs, rfl, hsz⟩ := okWide_struct Tryd.underlying51 hv
  obtain ⟨fuel, h⟩ := h
  obtain ⟨xs, m, _, hx, hl, hlen, hf⟩ := DataW.trod_struct Tryd.underlying51 h
  have f0 := hf 0 _ rfl
  have f1 := hf 1 _ rfl
  have f2 := hf 2 _ rfl
  clear hf hx h hv hl
  have q3 : Tryd.prog.cellsOf 3 = 1 := by kernel_rfl
  have k22 : Tryd.prog.cellsOf 22 = 1 := by kernel_rfl
  rw [show Tryd.prog.cellsOf 51 = 3 by kernel_rfl] at hsz
  obtain ⟨cl⟩ := cs
  match cl, hsz with
  | [c0, c1, c2], _ =>
  match xs, hlen with
  | [y0, y1, y2], _ =>
  simp [Value.cells, q3, k22] at f0 f1 f2
  obtain ⟨k0, e0, -, w0⟩ := DataW.trod_int Tryd.underlying3 f0
  obtain ⟨k1, e1, -, w1⟩ := DataW.trod_int Tryd.underlying3 f1
  obtain ⟨zs, a, c, e2, ha, h1, h2⟩ := ints_arg f2
  simp only [List.cons.injEq, and_true] at e0 e1 e2
  subst e0 e1 e2
  exact ⟨k0, k1, zs, a, c, rfl, ha, h1, h2⟩

set_option maxRecDepth 100000 in
/-- A list of ints that came in. -/
theorem open_list {H : Type} {enc : TypeId × Value → H} {W : World} {base : Nat} {v : Value} {d : DataW H} {p : List MemPlace}
    (hv : Value.okWide Tryd.prog W .any base 22 v) (h : DataW.Trod enc Tryd.prog W 0 (fun _ => true) true 22 v d p) :
    ∃ (xs : List Int) (a : Option Addr) (c : Nat), v = .slice a xs.length c ∧ ArgP W xs a xs.length c ∧ xs.length ≤ c ∧ c ≤ maxLen := by
  obtain ⟨a0, n0, c0, rfl⟩ := okWide_slice Tryd.underlying22 hv
  obtain ⟨fuel, h⟩ := h
  obtain ⟨xs, a, c, e, ha, h1, h2⟩ := ints_arg h
  simp [Value.cells] at e
  obtain ⟨rfl, rfl, rfl⟩ := e
  exact ⟨xs, _, _, rfl, ha, h1, h2⟩
end Go.Proofs.YtljdidimoagnhaaDoor

namespace Go.Proofs.YtljdidimoagnhaaDoor
open Go.ChangeShapes Go.WideShapes Go.ChangeAt Go.RowKit
set_option linter.unusedVariables false

set_option maxRecDepth 100000 in
theorem open_ruleQ {H : Type} {enc : TypeId × Value → H} {W : World} {base : Nat} {v : Value} {d : DataW H} {p : List MemPlace}
    (hv : Value.okWide Tryd.prog W .any base 24 v) (h : DataW.Trod enc Tryd.prog W 0 (fun _ => true) true 24 v d p) :
    ∃ (o : Out) (a : Option Addr) (c : Nat), v = .agg #[.int .i64 o.kind, .int .i64 o.born, .int .i64 o.stay, .int .i64 o.states, .int .i64 o.radius, .slice a o.table.length c, .string o.turns] ∧ ArgR W o a o.table.length c ∧ o.table.length ≤ c ∧ c ≤ maxLen := by
  obtain ⟨cs, rfl, hsz⟩ := okWide_struct Tryd.underlying24 hv
  obtain ⟨fuel, h⟩ := h
  obtain ⟨xs, m, _, hx, hl, hlen, hf⟩ := DataW.trod_struct Tryd.underlying24 h
  have f0 := hf 0 _ rfl
  have f1 := hf 1 _ rfl
  have f2 := hf 2 _ rfl
  have f3 := hf 3 _ rfl
  have f4 := hf 4 _ rfl
  have f5 := hf 5 _ rfl
  have f6 := hf 6 _ rfl
  clear hf hx h hv hl
  have q3 : Tryd.prog.cellsOf 3 = 1 := by kernel_rfl
  have k22 : Tryd.prog.cellsOf 22 = 1 := by kernel_rfl
  have k9 : Tryd.prog.cellsOf 9 = 1 := by kernel_rfl
  rw [show Tryd.prog.cellsOf 24 = 7 by kernel_rfl] at hsz
  obtain ⟨cl⟩ := cs
  match cl, hsz with
  | [c0, c1, c2, c3, c4, c5, c6], _ =>
  match xs, hlen with
  | [y0, y1, y2, y3, y4, y5, y6], _ =>
  simp [Value.cells, q3, k22, k9] at f0 f1 f2 f3 f4 f5 f6
  obtain ⟨k0, e0, -, w0⟩ := DataW.trod_int Tryd.underlying3 f0
  obtain ⟨k1, e1, -, w1⟩ := DataW.trod_int Tryd.underlying3 f1
  obtain ⟨k2, e2, -, w2⟩ := DataW.trod_int Tryd.underlying3 f2
  obtain ⟨k3, e3, -, w3⟩ := DataW.trod_int Tryd.underlying3 f3
  obtain ⟨k4, e4, -, w4⟩ := DataW.trod_int Tryd.underlying3 f4
  obtain ⟨t, e6, -, ht⟩ := DataW.trod_string Tryd.underlying9 f6
  have hr : k4 ≤ 9223372036854775807 := by
    simp only [Lit.wf, Bool.and_eq_true, decide_eq_true_eq] at w4
    have := w4.2
    exact Int.le_trans this (by decide)
  obtain ⟨zs, a, c, e5, ha, h1, h2⟩ := ints_arg f5
  simp only [List.cons.injEq, and_true] at e0 e1 e2 e3 e4 e5 e6
  subst e0 e1 e2 e3 e4 e5 e6
  exact ⟨⟨k0, k1, k2, k3, k4, zs, t⟩, a, c, rfl, ⟨rfl, ha.max, ht, ha.cells, hr⟩, h1, h2⟩
theorem int_max {k : Int} (h : (Lit.int .i64 k).wf = true) : k ≤ 9223372036854775807 := by
  simp only [Lit.wf, Bool.and_eq_true, decide_eq_true_eq] at h
  have := h.2
  exact Int.le_trans this (by decide)
end Go.Proofs.YtljdidimoagnhaaDoor

