/-
  What the last text of this claim leans on, part 13: Da4.
-/
import Derived.Test.YtjngjnkecnnmeaaDoorJr12
namespace Go.Proofs.YtjngjnkecnnmeaaDoor
open Go.RowKit
set_option linter.unusedVariables false

theorem DS.start (s : ByteArray) (w : World) (t1 t2 : TypeId) : DS s w (((w.alloc (.cells #[.int .i64 0, .int .i64 0, .slice none 0 0] t1)).alloc (.cells #[.int .i64 0, .int .i64 0, .slice none 0 0, .int .i64 0, .int .i64 0] t2)).iter s 0) 0 0 0 0 0 (.slice none 0 0) [] := by
  have hb : ∀ k, k < w.heap.size + 2 → (((w.alloc (.cells #[.int .i64 0, .int .i64 0, .slice none 0 0] t1)).alloc (.cells #[.int .i64 0, .int .i64 0, .slice none 0 0, .int .i64 0, .int .i64 0] t2)).iter s 0).heap[k]? = ((w.alloc (.cells #[.int .i64 0, .int .i64 0, .slice none 0 0] t1)).alloc (.cells #[.int .i64 0, .int .i64 0, .slice none 0 0, .int .i64 0, .int .i64 0] t2)).heap[k]? := fun k hk => Below.heap_alloc _ _ _ (by simp; omega)
  have hd : DAt (w.heap.size + 1) 0 0 (.slice none 0 0) 0 0 ((w.alloc (.cells #[.int .i64 0, .int .i64 0, .slice none 0 0] t1)).alloc (.cells #[.int .i64 0, .int .i64 0, .slice none 0 0, .int .i64 0, .int .i64 0] t2)) := by
    refine ⟨?_, ?_, ?_, ?_, ?_, fun k => by simp⟩ <;> (rw [World.cell?_alloc_at _ _ _ _ (by simp)]; rfl)
  refine ⟨?_, hd.block (hb _ (by omega)), ⟨by simp, Or.inl ⟨rfl, by simp⟩⟩, ((res_new w t1).block (Below.heap_alloc _ _ _ (by simp))).block (hb _ (by omega)), ?_⟩
  · have := World.iter_heap ((w.alloc (.cells #[.int .i64 0, .int .i64 0, .slice none 0 0] t1)).alloc (.cells #[.int .i64 0, .int .i64 0, .slice none 0 0, .int .i64 0, .int .i64 0] t2)) s 0
    simpa using this
  · exact (((Below.refl _ _).alloc (Nat.le_refl _) _).alloc (by simp) _).trans ((Below.refl _ _).alloc (by simp; omega) _)

set_option maxRecDepth 100000 in
set_option maxHeartbeats 6400000 in
theorem pParseDraw (s : ByteArray) (w : World) (hs : s.size ≤ 40000) :
    Calls Tryd.prog 41 #[.string s] w (DrawPost s w) := by
  have n1 : ¬ (40000 : Int) < (s.size : Int) := by omega
  have S0 := hide' (DS.start s w 51 122)
  have N0 := hide' (DNum.start s hs)
  go_enter Tryd.func41, Tryd.ntmps41
  go_wp2
  go_loopw [] (fun wr => ∃ (i r n W H : Nat) (v : Value) (xs : List Int), DS s w wr i r n W H v xs ∧ DNum s i r n W H xs) (fun wr => s.size - wr.iterPos (w.heap.size + 2))
  case atStart => exact ⟨0, 0, 0, 0, 0, _, [], S0.out, N0.out⟩
  case round =>
    obtain ⟨i, r, n, W, H, v, xs, ds, dn⟩ := hrel
    have S := hide' ds
    have N := hide' dn
    have hli := dn.li
    clear ds dn S0 N0
    by_cases hlt : i < s.size
    · cases hd : isDot s i with
      | true =>
        have hj : i + 2 ≤ s.size := by have := isDot_true.1 hd; omega
        have hnx : ∀ ty, (Instr.next (.pointer (some ⟨w.heap.size + 2, 0, none⟩)) true ty).run Tryd.prog wr = .ok (.tuple #[.bool true, .int .i64 i, .int .i32 183]) (wr.iterAt (w.heap.size + 2) s (i + 2)) := fun ty => by
          rw [Lib.run_next_any_at wr (w.heap.size + 2) s i ty S.out.it hlt, decode_dot hd]; rfl
        have S1 := hide' (S.out.iter (i + 2))
        have hz := S1.out.sz
        have EQ := hide' (drawF_dot (r := r) (n := n) (W := W) (H := H) (xs := xs) hlt hd)
        by_cases h100 : H = 100
        · have RE := hide' (show drawS s = .inr (i, 1) by rw [← N.out.eq, EQ.out, if_pos h100, N.out.row (N.out.top h100)])
          go_wp2_with fail
          refine (ptake_high (w.heap.size + 1) W H v r n i _ _ _ rfl S1.out.dat (by omega) h100).mono ?_
          rintro e w2 ⟨rfl, r2⟩
          have RSB := hide' (S1.out.res.block (r2.block _ (by omega) (by omega)))
          have B := hide' (S1.out.below.trans (r2.below (by omega) (by omega)))
          obtain ⟨y0, y1, y2, g0, g1, g2⟩ := RSB.out
          go_wp2
          refine bodyPost_ret (v := .tuple #[.agg #[.int .i64 0, .int .i64 0, .slice none 0 0], .int .i64 ((i : Nat) : Int), .iface 87 (.int .i64 1)]) (by simp [results, Tryd.results41, go_sem, y0, y1, y2]) rfl ?_
          exact ⟨fin_below B.out _ _ _, Or.inr ⟨i, 1, RE.out, rfl⟩⟩
        by_cases n100 : n = 100
        · have RE := hide' (show drawS s = .inr (i, 1) by rw [← N.out.eq, EQ.out, if_neg h100, if_pos n100])
          go_wp2_with fail
          refine (ptake_wide (w.heap.size + 1) W H v r n i _ _ _ rfl S1.out.dat (by omega) h100 n100).mono ?_
          rintro e w2 ⟨rfl, r2⟩
          have RSB := hide' (S1.out.res.block (r2.block _ (by omega) (by omega)))
          have B := hide' (S1.out.below.trans (r2.below (by omega) (by omega)))
          obtain ⟨y0, y1, y2, g0, g1, g2⟩ := RSB.out
          go_wp2
          refine bodyPost_ret (v := .tuple #[.agg #[.int .i64 0, .int .i64 0, .slice none 0 0], .int .i64 ((i : Nat) : Int), .iface 87 (.int .i64 1)]) (by simp [results, Tryd.results41, go_sem, y0, y1, y2]) rfl ?_
          exact ⟨fin_below B.out _ _ _, Or.inr ⟨i, 1, RE.out, rfl⟩⟩
        have N2 := hide' (N.out.cell (i + 2) 0 hj (by omega) h100 n100 (by rw [EQ.out, if_neg h100, if_neg n100]))
        have hsm := N.out.small h100
        have hnl := N.out.ln
        go_wp2_with fail
        refine (ptake_dot (w.heap.size + 1) (w.heap.size + 3) W H v xs r n i _ _ rfl S1.out.dat h100 (by omega) S1.out.own (by omega) hsm hz).mono ?_
        rintro e w2 ⟨rfl, d2, v2, da, ow⟩
        have S2 := hide' (S1.out.push d2 da ow)
        clear d2 da ow
        go_wp2
        go_roundw
        case rel => exact ⟨i + 2, r, n + 1, W, H, v2, xs ++ [0], S2.out, N2.out⟩
        · rw [S2.out.pos, S.out.pos]; omega
      | false =>
        cases hba : isBall s i with
        | true =>
          have hj : i + 3 ≤ s.size := by have := isBall_true.1 hba; omega
          have hnx : ∀ ty, (Instr.next (.pointer (some ⟨w.heap.size + 2, 0, none⟩)) true ty).run Tryd.prog wr = .ok (.tuple #[.bool true, .int .i64 i, .int .i32 9679]) (wr.iterAt (w.heap.size + 2) s (i + 3)) := fun ty => by
            rw [Lib.run_next_any_at wr (w.heap.size + 2) s i ty S.out.it hlt, decode_ball hba]; rfl
          have S1 := hide' (S.out.iter (i + 3))
          have hz := S1.out.sz
          have EQ := hide' (drawF_ball (r := r) (n := n) (W := W) (H := H) (xs := xs) hlt hd hba)
          by_cases h100 : H = 100
          · have RE := hide' (show drawS s = .inr (i, 1) by rw [← N.out.eq, EQ.out, if_pos h100, N.out.row (N.out.top h100)])
            go_wp2_with fail
            refine (ptake_high (w.heap.size + 1) W H v r n i _ _ _ rfl S1.out.dat (by omega) h100).mono ?_
            rintro e w2 ⟨rfl, r2⟩
            have RSB := hide' (S1.out.res.block (r2.block _ (by omega) (by omega)))
            have B := hide' (S1.out.below.trans (r2.below (by omega) (by omega)))
            obtain ⟨y0, y1, y2, g0, g1, g2⟩ := RSB.out
            go_wp2
            refine bodyPost_ret (v := .tuple #[.agg #[.int .i64 0, .int .i64 0, .slice none 0 0], .int .i64 ((i : Nat) : Int), .iface 87 (.int .i64 1)]) (by simp [results, Tryd.results41, go_sem, y0, y1, y2]) rfl ?_
            exact ⟨fin_below B.out _ _ _, Or.inr ⟨i, 1, RE.out, rfl⟩⟩
          by_cases n100 : n = 100
          · have RE := hide' (show drawS s = .inr (i, 1) by rw [← N.out.eq, EQ.out, if_neg h100, if_pos n100])
            go_wp2_with fail
            refine (ptake_wide (w.heap.size + 1) W H v r n i _ _ _ rfl S1.out.dat (by omega) h100 n100).mono ?_
            rintro e w2 ⟨rfl, r2⟩
            have RSB := hide' (S1.out.res.block (r2.block _ (by omega) (by omega)))
            have B := hide' (S1.out.below.trans (r2.below (by omega) (by omega)))
            obtain ⟨y0, y1, y2, g0, g1, g2⟩ := RSB.out
            go_wp2
            refine bodyPost_ret (v := .tuple #[.agg #[.int .i64 0, .int .i64 0, .slice none 0 0], .int .i64 ((i : Nat) : Int), .iface 87 (.int .i64 1)]) (by simp [results, Tryd.results41, go_sem, y0, y1, y2]) rfl ?_
            exact ⟨fin_below B.out _ _ _, Or.inr ⟨i, 1, RE.out, rfl⟩⟩
          have N2 := hide' (N.out.cell (i + 3) 1 hj (by omega) h100 n100 (by rw [EQ.out, if_neg h100, if_neg n100]))
          have hsm := N.out.small h100
          have hnl := N.out.ln
          go_wp2_with fail
          refine (ptake_ball (w.heap.size + 1) (w.heap.size + 3) W H v xs r n i _ _ rfl S1.out.dat h100 (by omega) S1.out.own (by omega) hsm hz).mono ?_
          rintro e w2 ⟨rfl, d2, v2, da, ow⟩
          have S2 := hide' (S1.out.push d2 da ow)
          clear d2 da ow
          go_wp2
          go_roundw
          case rel => exact ⟨i + 3, r, n + 1, W, H, v2, xs ++ [1], S2.out, N2.out⟩
          · rw [S2.out.pos, S.out.pos]; omega
        | false =>
          by_cases h10 : bt s i = 10
          · have hnx : ∀ ty, (Instr.next (.pointer (some ⟨w.heap.size + 2, 0, none⟩)) true ty).run Tryd.prog wr = .ok (.tuple #[.bool true, .int .i64 i, .int .i32 10]) (wr.iterAt (w.heap.size + 2) s (i + 1)) := fun ty => by
              rw [Lib.run_next_any_at wr (w.heap.size + 2) s i ty S.out.it hlt, decode_ten h10]; rfl
            have S1 := hide' (S.out.iter (i + 1))
            have hz := S1.out.sz
            have EQ := hide' (drawF_ten (r := r) (n := n) (W := W) (H := H) (xs := xs) hlt h10)
            by_cases h100 : H = 100
            · have RE := hide' (show drawS s = .inr (i, 1) by rw [← N.out.eq, EQ.out, if_pos h100, N.out.row (N.out.top h100)])
              go_wp2_with fail
              refine (ptake_high (w.heap.size + 1) W H v r n i _ _ _ rfl S1.out.dat (by omega) h100).mono ?_
              rintro e w2 ⟨rfl, r2⟩
              have RSB := hide' (S1.out.res.block (r2.block _ (by omega) (by omega)))
              have B := hide' (S1.out.below.trans (r2.below (by omega) (by omega)))
              obtain ⟨y0, y1, y2, g0, g1, g2⟩ := RSB.out
              go_wp2
              refine bodyPost_ret (v := .tuple #[.agg #[.int .i64 0, .int .i64 0, .slice none 0 0], .int .i64 ((i : Nat) : Int), .iface 87 (.int .i64 1)]) (by simp [results, Tryd.results41, go_sem, y0, y1, y2]) rfl ?_
              exact ⟨fin_below B.out _ _ _, Or.inr ⟨i, 1, RE.out, rfl⟩⟩
            have hlh := N.out.lH
            have hln := N.out.ln
            go_wp2_with fail
            refine (ptake_row (w.heap.size + 1) W H v r n i _ _ rfl S1.out.dat (by omega) h100 hlh hln).mono ?_
            rintro e w2 ⟨r2, (⟨q, rfl⟩ | ⟨q, rfl, da⟩)⟩
            · have RE := hide' (show drawS s = .inr (r, 3) by rw [← N.out.eq, EQ.out, if_neg h100, if_pos q])
              have RSB := hide' (S1.out.res.block (r2.block _ (by omega) (by omega)))
              have B := hide' (S1.out.below.trans (r2.below (by omega) (by omega)))
              obtain ⟨y0, y1, y2, g0, g1, g2⟩ := RSB.out
              go_wp2
              refine bodyPost_ret (v := .tuple #[.agg #[.int .i64 0, .int .i64 0, .slice none 0 0], .int .i64 ((r : Nat) : Int), .iface 87 (.int .i64 3)]) (by simp [results, Tryd.results41, go_sem, y0, y1, y2]) rfl ?_
              exact ⟨fin_below B.out _ _ _, Or.inr ⟨r, 3, RE.out, rfl⟩⟩
            · have S2 := hide' (S1.out.rd r2 da)
              have N2 := hide' (N.out.ten hlt h100 q h10)
              clear r2 da
              go_wp2
              go_roundw
              case rel => exact ⟨i + 1, i + 1, 0, n, H + 1, v, xs, S2.out, N2.out⟩
              · rw [S2.out.pos, S.out.pos]; omega
          · obtain ⟨o1, o2, o3⟩ := decode_other hd hba h10
            obtain ⟨c, hc⟩ : ∃ c : Nat, (Utf8.decode s i).1 = c := ⟨_, rfl⟩
            obtain ⟨k, hk⟩ : ∃ k : Nat, (Utf8.decode s i).2 = k := ⟨_, rfl⟩
            rw [hc] at o1 o2 o3
            have hnx : ∀ ty, (Instr.next (.pointer (some ⟨w.heap.size + 2, 0, none⟩)) true ty).run Tryd.prog wr = .ok (.tuple #[.bool true, .int .i64 i, .int .i32 (c : Int)]) (wr.iterAt (w.heap.size + 2) s (i + k)) := fun ty => by
              rw [Lib.run_next_any_at wr (w.heap.size + 2) s i ty S.out.it hlt, hc, hk]
            have S1 := hide' (S.out.iter (i + k))
            have hz := S1.out.sz
            have RE := hide' (show drawS s = .inr (i, 2) by rw [← N.out.eq, drawF_none hlt hd hba h10])
            clear hc hk
            go_wp2_with fail
            refine (ptake_syntax (w.heap.size + 1) W H v r n i _ _ _ rfl S1.out.dat (by omega) (by omega) (by omega)).mono ?_
            rintro e w2 ⟨rfl, r2⟩
            have RSB := hide' (S1.out.res.block (r2.block _ (by omega) (by omega)))
            have B := hide' (S1.out.below.trans (r2.below (by omega) (by omega)))
            obtain ⟨y0, y1, y2, g0, g1, g2⟩ := RSB.out
            go_wp2
            refine bodyPost_ret (v := .tuple #[.agg #[.int .i64 0, .int .i64 0, .slice none 0 0], .int .i64 ((i : Nat) : Int), .iface 87 (.int .i64 2)]) (by simp [results, Tryd.results41, go_sem, y0, y1, y2]) rfl ?_
            exact ⟨fin_below B.out _ _ _, Or.inr ⟨i, 2, RE.out, rfl⟩⟩
    · have hnx : ∀ ty, (Instr.next (.pointer (some ⟨w.heap.size + 2, 0, none⟩)) true ty).run Tryd.prog wr = .ok (.tuple #[.bool false]) wr := fun ty => Lib.run_next_end_at wr (w.heap.size + 2) s i ty S.out.it hlt
      have EQ := hide' (drawF_end (s := s) (i := i) (r := r) (n := n) (W := W) (H := H) (xs := xs) (by omega))
      have x3 := S.out.dat.c3
      have x0 := S.out.dat.c0
      have x1 := S.out.dat.c1
      have x2 := S.out.dat.c2
      obtain ⟨y0, y1, y2, g0, g1, g2⟩ := S.out.res
      have hrs : r ≤ s.size := Nat.le_trans N.out.lr hli
      obtain ⟨sa, sn, sc, rfl⟩ := ownsRow_slice S.out.own
      by_cases q : r < s.size
      · have m1 : ((r : Int) != (s.size : Int)) = true := by simp; omega
        have RE := hide' (show drawS s = .inr (s.size, 2) by rw [← N.out.eq, EQ.out, if_pos q])
        go_wp2
        refine bodyPost_ret (v := .tuple #[.agg #[.int .i64 0, .int .i64 0, .slice none 0 0], .int .i64 (s.size : Int), .iface 87 (.int .i64 2)]) (by simp [results, Tryd.results41, go_sem, y0, y1, y2]) rfl ?_
        exact ⟨fin_below S.out.below _ _ _, Or.inr ⟨s.size, 2, RE.out, rfl⟩⟩
      · have m1 : ((r : Int) != (s.size : Int)) = false := by simp; omega
        have RE := hide' (show drawS s = .inl (W, H, xs) by rw [← N.out.eq, EQ.out, if_neg q])
        go_wp2
        refine bodyPost_ret (v := .tuple #[.agg #[.int .i64 (W : Int), .int .i64 (H : Int), .slice sa sn sc], .int .i64 0, .nilIface]) (by simp [results, Tryd.results41, go_sem, y0, y1, y2]) rfl ?_
        refine ⟨fin_below S.out.below _ _ _, Or.inl ⟨W, H, xs, _, RE.out, rfl, ?_, N.out.all, fresh_own S.out.own (by omega)⟩⟩
        exact ownsRow_tab (ownsRow_setCell_below (ownsRow_setCell_below (ownsRow_setCell_below S.out.own (a := ⟨w.heap.size, 0, none⟩) (by simp) _) (a := ⟨w.heap.size, 1, none⟩) (by simp) _) (a := ⟨w.heap.size, 2, none⟩) (by simp) _)
end Go.Proofs.YtjngjnkecnnmeaaDoor

