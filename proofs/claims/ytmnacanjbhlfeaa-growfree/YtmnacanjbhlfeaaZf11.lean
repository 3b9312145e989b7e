/-
  What the last text of this claim leans on, part 11: Gy2, Gx1, Gx2.
-/
import Derived.Test.YtmnacanjbhlfeaaZf10
import Derived.Test.YtmnacanjbhlfeaaZf4
namespace Go.Proofs.Ytmnacanjbhlfeaa
open Go.RowKit
set_option linter.unusedVariables false
set_option linter.unusedSimpArgs false
theorem smL_takeY {l : List UInt8} {t a b n : Nat} (ha : a + n ≤ t) (hb : b + n ≤ t) : smL (l.take t) a b n ↔ smL l a b n := by
  unfold smL
  refine forall_congr' fun j => ?_
  constructor
  · intro h hj
    have := h hj
    simpa [List.getD, List.getElem?_take, show a + j < t by omega, show b + j < t by omega] using this
  · intro h hj
    have := h hj
    simpa [List.getD, List.getElem?_take, show a + j < t by omega, show b + j < t by omega] using this
/-- How far the search is: texts cut to t letters, lengths below s tried. -/
def TwS (l : List UInt8) (m t b n s : Nat) : Prop :=
  t ≤ l.length ∧ 1 ≤ s ∧ (∀ e' n', n' < s → e' ≤ t → ¬ rpL l m e' n') ∧
  ((n = 0 ∧ b = 0 ∧ t = l.length) ∨ (1 ≤ n ∧ n < s ∧ b + 2 * n + m = t + 1 ∧ t + 1 ≤ l.length ∧ rpL l m (t + 1) n ∧ noS l m (t + 1) n))
theorem TwS.first (l : List UInt8) (m : Nat) : TwS l m l.length 0 0 1 :=
  ⟨Nat.le_refl _, Nat.le_refl _, fun e' n' h _ r => by have := r.1; omega, Or.inl ⟨rfl, rfl, rfl⟩⟩
theorem TwS.found {l : List UInt8} {m t b n s a : Nat} (h : TwS l m t b n s) (h1 : a + s + (s + m) ≤ t) (h2 : smL (l.take t) a (a + s) (s + m)) (h3 : ∀ a', a' < a → ¬ smL (l.take t) a' (a' + s) (s + m)) : TwS l m (a + 2 * s + m - 1) a s (s + 1) := by
  obtain ⟨ht, hs, hn, hc⟩ := h
  have r : rpL l m (a + 2 * s + m) s := ⟨hs, by omega, by rw [show a + 2 * s + m - 2 * s - m = a by omega]; exact (smL_takeY (by omega) (by omega)).1 h2⟩
  refine ⟨by omega, by omega, fun e' n' hn' he' r' => ?_, Or.inr ⟨hs, by omega, by omega, by omega, ?_, ?_⟩⟩
  · by_cases q : n' < s
    · exact hn e' n' q (by omega) r'
    · obtain rfl : n' = s := by omega
      obtain ⟨p1, p2, p3⟩ := r'
      exact h3 (e' - 2 * n' - m) (by omega) ((smL_takeY (by omega) (by omega)).2 p3)
  · rw [show a + 2 * s + m - 1 + 1 = a + 2 * s + m by omega]; exact r
  · rw [show a + 2 * s + m - 1 + 1 = a + 2 * s + m by omega]
    intro n' hn'
    exact hn _ n' hn' (by omega)
theorem TwS.none {l : List UInt8} {m t b n s : Nat} (h : TwS l m t b n s) (h3 : ∀ a', a' + s + (s + m) ≤ (l.take t).length → ¬ smL (l.take t) a' (a' + s) (s + m)) : TwS l m t b n (s + 1) := by
  obtain ⟨ht, hs, hn, hc⟩ := h
  have lt : (l.take t).length = t := by rw [List.length_take]; omega
  refine ⟨ht, by omega, fun e' n' hn' he' r' => ?_, ?_⟩
  · by_cases q : n' < s
    · exact hn e' n' q (by omega) r'
    · obtain rfl : n' = s := by omega
      obtain ⟨p1, p2, p3⟩ := r'
      exact h3 (e' - 2 * n' - m) (by omega) ((smL_takeY (by omega) (by omega)).2 p3)
  · rcases hc with c | ⟨c1, c2, c3⟩
    · exact Or.inl c
    · exact Or.inr ⟨c1, by omega, c3⟩
theorem TwS.out {l : List UInt8} {m t b n s : Nat} (h : TwS l m t b n s) (hl : l.length ≤ 40000) (hd : t < 2 * s + m) : RepOut l m (.returned (.tuple #[.int .i64 (b : Int), .int .i64 (n : Int), .bool (decide (0 < n))])) := by
  obtain ⟨ht, hs, hn, hc⟩ := h
  have no : noR l m (t + 1) := fun e' n' he' r' => by
    by_cases q : n' < s
    · exact hn e' n' q (by omega) r'
    · have := r'.2.1; omega
  rcases hc with ⟨rfl, rfl, rfl⟩ | ⟨c1, c2, c3, c4, c5, c6⟩
  · exact Or.inr ⟨Or.inr no, rfl⟩
  · refine Or.inl ⟨t + 1, n, c4, c5, no, c6, hl, ?_⟩
    rw [show t + 1 - 2 * n - m = b by omega, decide_eq_true (show 0 < n by omega)]
set_option maxRecDepth 100000 in
set_option maxHeartbeats 6400000 in
theorem twice_any (l : List UInt8) (m : Nat) (w : World) (hl : l.length ≤ maxLen) (hm : m ≤ 1) : Calls Try.prog 11 #[.string ⟨l.toArray⟩, .int .i64 (m : Int)] w fun e w' => RepOut l m e ∧ Below w.heap.size w w' := by
  have HL := hide' hl
  clear hl
  go_enter Try.func11, Try.ntmps11
  have hx := HL.out
  unfold maxLen at hx
  by_cases big : (40000 : Int) < (l.length : Int)
  · have BG := hide' (show 40000 < l.length by omega)
    go_wp2
    go_ret3
    exact ⟨Or.inr ⟨Or.inl BG.out, rfl⟩, Below.refl _ _⟩
  · have l4 : l.length ≤ 40000 := by omega
    clear hx
    go_wp2
    go_loopw [0, 7, 8, 9, 10, 11] (fun tv bv nv sv _ _ wr => ∃ (t b n s : Nat), tv = .string ⟨(l.take t).toArray⟩ ∧ bv = .int .i64 (b : Int) ∧ nv = .int .i64 (n : Int) ∧ sv = .int .i64 (s : Int) ∧ Hid (TwS l m t b n s) ∧ s ≤ 40001 ∧ b ≤ 40000 ∧ n ≤ 40000 ∧ t ≤ 40000 ∧ Hid (Below w.heap.size w wr)) (fun _ _ _ sv _ _ _ => 40001 - (intOf sv).toNat)
    case atStart => exact ⟨l.length, 0, 0, 1, by rw [List.take_length], rfl, rfl, rfl, hide' (TwS.first l m), by omega, by omega, by omega, by omega, hide' (Below.refl _ _)⟩
    case round =>
      obtain ⟨t, b, n, s, rfl, rfl, rfl, rfl, TS, s4, b4, n4, t4, BW⟩ := hrel
      have LT := hide' (show (l.take t).length = t by rw [List.length_take]; have := TS.out.1; omega)
      have CC := hide' (fun (k : Nat) (hk1 : 1 ≤ k) (hk : k ≤ 40001) (hs : s ≤ 40000) (V : World) => comesAgain_any (l.take t) s k V (by rw [LT.out]; exact t4) hs hk1 hk)
      have CU := hide' (fun a b (_ : a ≤ b) => cut_Y (l.take t) a b)
      have TT := hide' (fun u (h : u ≤ t) => show (l.take t).take u = l.take u by rw [List.take_take]; congr 1; omega)
      have FO := hide' (fun a (h : a + s + (s + m) ≤ (l.take t).length) h2 h3 => TS.out.found (a := a) (by rw [LT.out] at h; exact h) h2 h3)
      have NO := hide' (fun h3 => TS.out.none h3)
      have EN := hide' (fun h => TS.out.out l4 h)
      have s1 : 1 ≤ s := TS.out.2.1
      clear TS
      obtain ⟨q, hq⟩ : ∃ q, l.take t = q := ⟨_, rfl⟩
      rw [hq] at LT CC CU TT FO NO ⊢
      have HQ := hide' hq
      clear hq
      have lq := LT.out
      obtain ⟨k, hk⟩ : ∃ k, s + m = k := ⟨_, rfl⟩
      rw [hk] at FO NO
      have ek : (s : Int) + (m : Int) = (k : Int) := by omega
      have dd : 2 * s + m ≤ t ↔ 2 * (s : Int) + (m : Int) ≤ (q.length : Int) := by omega
      by_cases d : 2 * (s : Int) + (m : Int) ≤ (q.length : Int)
      · have CC2 := hide' (CC.out k (by omega) (by omega) (by omega))
        have kb : k ≤ 40001 := by omega
        have HK := hide' hk
        clear hk dd
        go_wp2_with fail
        refine (CC2.out _).mono ?_
        rintro o w3 ⟨r, wm⟩
        have B3 := hide' (show Below w.heap.size w w3 by obtain ⟨x, rfl⟩ := wm; exact drewG BW.out _)
        clear wm
        rcases r with ⟨a, h1, h2, h3, rfl⟩ | ⟨h1, rfl⟩
        · have TS := hide' (FO.out a h1 h2 h3)
          have a4 : a ≤ 40000 := by omega
          have ksm : k = s + m := HK.out.symm
          obtain ⟨u, hu⟩ : ∃ u, a + 2 * s + m - 1 = u := ⟨_, rfl⟩
          have eu : (a : Int) + 2 * (s : Int) + (m : Int) - 1 = (u : Int) := by omega
          have ut : u ≤ q.length := by omega
          have u0 : (0 : Int) ≤ (u : Int) := by omega
          have ul : (u : Int) ≤ (q.length : Int) := by omega
          have XC := hide' (show (⟨q.toArray⟩ : ByteArray).extract 0 u = ⟨(l.take u).toArray⟩ by rw [CU.out 0 u (by omega)]; simp only [List.drop_zero, Nat.sub_zero]; rw [TT.out u (by omega)])
          have xc := XC.out
          rw [hu] at TS
          clear h2 h3 hu ksm
          go_wp2
          exact ⟨⟨u, a, s, s + 1, by go_num, rfl, rfl, by go_num, TS, by omega, by omega, by omega, by omega, B3⟩, by simp [intOf]; omega⟩
        · have TS := hide' (NO.out h1)
          clear h1
          go_wp2
          exact ⟨⟨t, b, n, s + 1, by rw [HQ.out], rfl, rfl, by go_num, TS, by omega, by omega, by omega, by omega, B3⟩, by simp [intOf]; omega⟩
      · have E := hide' (EN.out (by omega))
        go_wp2
        go_ret3
        exact ⟨E.out, BW.out⟩
theorem Square_any (l : List UInt8) (w : World) (hl : l.length ≤ maxLen) : Calls Try.prog 5 #[.string ⟨l.toArray⟩] w fun e w' => RepOut l 0 e ∧ Below w.heap.size w w' := by
  have T := hide' (twice_any l 0 w hl (by omega))
  clear hl
  go_enter Try.func5, Try.ntmps5
  go_wp2_with fail
  refine T.out.mono ?_
  rintro o w3 ⟨r, b3⟩
  obtain ⟨x, y, z, rfl⟩ := r.form
  have R := hide' r
  clear r
  go_wp2
  go_ret3
  exact ⟨R.out, b3⟩
theorem Overlap_any (l : List UInt8) (w : World) (hl : l.length ≤ maxLen) : Calls Try.prog 7 #[.string ⟨l.toArray⟩] w fun e w' => RepOut l 1 e ∧ Below w.heap.size w w' := by
  have T := hide' (twice_any l 1 w hl (by omega))
  clear hl
  go_enter Try.func7, Try.ntmps7
  go_wp2_with fail
  refine T.out.mono ?_
  rintro o w3 ⟨r, b3⟩
  obtain ⟨x, y, z, rfl⟩ := r.form
  have R := hide' r
  clear r
  go_wp2
  go_ret3
  exact ⟨R.out, b3⟩
end Go.Proofs.Ytmnacanjbhlfeaa

namespace Go.Proofs.Ytmnacanjbhlfeaa
open Go.RowKit
set_option linter.unusedVariables false
set_option linter.unusedSimpArgs false
/-- Where a letter stands, as the bits of a number. -/
def mskL (c : UInt8) : List UInt8 → Nat
  | [] => 0
  | x :: r => 2 * mskL c r + (if x = c then 1 else 0)
theorem mskL_bit (c : UInt8) : ∀ (l : List UInt8) (i : Nat), i < l.length → l.getD i 0 = c → (mskL c l).testBit i = true
  | [], i, h, _ => by cases h
  | x :: r, 0, _, e => by
    have e' : x = c := by simpa [List.getD] using e
    unfold mskL
    rw [if_pos e', Nat.testBit_zero]
    simp
  | x :: r, i + 1, h, e => by
    unfold mskL
    rw [Nat.testBit_succ]
    have q : (2 * mskL c r + (if x = c then 1 else 0)) / 2 = mskL c r := by split <;> omega
    rw [q]
    exact mskL_bit c r i (by simpa using h) (by simpa [List.getD] using e)
/-- Where so many in a row are set. -/
def runB (E : Nat) : Nat → Nat → Nat
  | 0, _ => E
  | f + 1, k => if k ≤ 1 then E else
    match runB E f (k / 2) with
    | 0 => 0
    | r + 1 => if k % 2 = 1 then ((r + 1) &&& ((r + 1) >>> (k / 2))) &&& (E >>> (k - 1)) else (r + 1) &&& ((r + 1) >>> (k / 2))
theorem runB_ok (E : Nat) : ∀ (f k i : Nat), 1 ≤ k → (∀ j, j < k → E.testBit (i + j) = true) → (runB E f k).testBit i = true
  | 0, k, i, hk, h => by have := h 0 (by omega); simpa [runB] using this
  | f + 1, k, i, hk, h => by
    unfold runB
    by_cases q : k ≤ 1
    · rw [if_pos q]; have := h 0 (by omega); simpa using this
    · rw [if_neg q]
      have h1 := runB_ok E f (k / 2) i (by omega) (fun j hj => h j (by omega))
      have h2 := runB_ok E f (k / 2) (i + k / 2) (by omega) (fun j hj => by rw [Nat.add_assoc]; exact h _ (by omega))
      cases hr : runB E f (k / 2) with
      | zero => rw [hr] at h1; simp at h1
      | succ r =>
        rw [hr] at h1 h2
        have h3 : ((r + 1) &&& ((r + 1) >>> (k / 2))).testBit i = true := by
          rw [Nat.testBit_and, Nat.testBit_shiftRight, h1, Nat.add_comm (k / 2) i, h2]; rfl
        show (if k % 2 = 1 then ((r + 1) &&& ((r + 1) >>> (k / 2))) &&& (E >>> (k - 1)) else (r + 1) &&& ((r + 1) >>> (k / 2))).testBit i = true
        split
        · rw [Nat.testBit_and, h3, Nat.testBit_shiftRight, Nat.add_comm (k - 1) i, h (k - 1) (by omega)]; rfl
        · exact h3
/-- Like letters p apart. -/
def likB (a b c p : Nat) : Nat := (a &&& (a >>> p)) ||| (b &&& (b >>> p)) ||| (c &&& (c >>> p))
/-- No word of up to so many letters stands twice (and m letters more). -/
def freB (a b c m : Nat) : Nat → Bool
  | 0 => true
  | p + 1 => (runB (likB a b c (p + 1)) 12 (p + 1 + m) == 0) && freB a b c m p
theorem freB_at {a b c m : Nat} : ∀ {P : Nat}, freB a b c m P = true → ∀ p, 1 ≤ p → p ≤ P → runB (likB a b c p) 12 (p + m) = 0
  | 0, _, p, h1, h2 => by omega
  | P + 1, h, p, h1, h2 => by
    unfold freB at h
    rw [Bool.and_eq_true] at h
    by_cases e : p = P + 1
    · subst e; simpa using h.1
    · exact freB_at h.2 p h1 (by omega)
/-- A text of three letters in which none stands twice, by numbers. -/
theorem free_of {l : List UInt8} {a b c m P : Nat} (ha : mskL 97 l = a) (hb : mskL 98 l = b) (hc : mskL 99 l = c) (hl : ∀ j, j < l.length → l.getD j 0 = 97 ∨ l.getD j 0 = 98 ∨ l.getD j 0 = 99)
    (h : freB a b c m P = true) (hP : l.length ≤ 2 * P + 1) : ∀ e n, e ≤ l.length → ¬ (1 ≤ n ∧ 2 * n + m ≤ e ∧ smL l (e - 2 * n - m) (e - 2 * n - m + n) (n + m)) := by
  rintro e n he ⟨n1, ne, hs⟩
  have z := freB_at h n n1 (by omega)
  have q := runB_ok (likB a b c n) 12 (n + m) (e - 2 * n - m) (by omega) (fun j hj => by
    have s := hs j hj
    obtain ⟨i, hi⟩ : ∃ i, e - 2 * n - m + j = i := ⟨_, rfl⟩
    rw [show e - 2 * n - m + n + j = i + n by omega, hi] at s
    rw [hi]
    have i1 : i < l.length := by omega
    have i2 : i + n < l.length := by omega
    have one : ∀ (d : UInt8) (M : Nat), mskL d l = M → l.getD i 0 = d → (M &&& (M >>> n)).testBit i = true := fun d M hM hd => by
      rw [Nat.testBit_and, Nat.testBit_shiftRight, ← hM, mskL_bit d l i i1 hd, Nat.add_comm n i, mskL_bit d l (i + n) i2 (by rw [← s]; exact hd)]; rfl
    unfold likB
    rw [Nat.testBit_or, Nat.testBit_or]
    rcases hl i i1 with x | x | x
    · rw [one 97 a ha x]; rfl
    · rw [one 98 b hb x]; simp
    · rw [one 99 c hc x]; simp)
  rw [z] at q
  simp at q
/-- Of a part from the front. -/
theorem smL_take {l : List UInt8} {k a b n : Nat} (ha : a + n ≤ k) (hb : b + n ≤ k) (h : smL (l.take k) a b n) : smL l a b n := fun j hj => by
  have := h j hj
  rw [List.getD, List.getD, List.getElem?_take_of_lt (by omega), List.getElem?_take_of_lt (by omega)] at this
  exact this
end Go.Proofs.Ytmnacanjbhlfeaa

namespace Go.Proofs.Ytmnacanjbhlfeaa
open Go.RowKit
set_option linter.unusedVariables false
set_option linter.unusedSimpArgs false
def thX : List (List UInt8) := [[97, 98], [98, 97]]
def teX : List (List UInt8) := [[97, 98, 99], [97, 99], [98]]
/-- So many rounds, of whatever length. -/
def itL (xs : List (List UInt8)) : Nat → List UInt8 → List UInt8
  | 0, l => l
  | n + 1, l => itL xs n (imgL xs l)
def thT : List UInt8 := (itL thX 11 [97]).take 1200
def teT : List UInt8 := (itL teX 10 [97]).take 1200
set_option maxRecDepth 100000 in
theorem thT_a : mskL 97 thT = 7101785301779354474431297593141325305174821602580338963176467875697853990670085103076022723310977552365450806908944741914362249429307196558126961136639727690292978644776320053875527561865233891907652907545414112679899598080885383516846989125203599525278557558268570397704850000818430042407315827828846634070488139082600804026232430746680053382003717123792606825 := by kernel_rfl
theorem thT_b : mskL 98 thT = 10116694154606396143636080102911310178405103142868350958556768940702886700571660516321461813925068620920920112123016845874222677861509464466864648746088989654366524826879670827009152334654821231998814156873642413551446087187355185693045584640834367059456626217470863581009728586964271338389924944648801240485498573663670558865995085458638861053909794017243654550 := by kernel_rfl
theorem thT_c : mskL 99 thT = 0 := by kernel_rfl
theorem thT_len : thT.length = 1200 := by kernel_rfl
theorem teT_a : mskL 97 teT = 4915286697905664086366859451327333562811610988549902478154112637312134310032115395203539948106805531452297337634159085482027277571921256116331046230640583369985868088776752928353892991005592272641107080400882917602560740622351812468382599391200806300714997530712674119477680693879535703769668523015959624915817126478504613442267681557608211874530398975699489865 := by kernel_rfl
theorem teT_b : mskL 98 teT = 2329558983271224373515618741942313268754151196914709486146627071425028720891684570829673734059900799921316187702134993887419033216219416558897193048403055777504504880662649610672317747181459962624845825180469484250501160429859351426604582663219170453576875605578653949254352906541494304062941254121328004481603172957426856574694610360783060159897816181015454370 := by kernel_rfl
theorem teT_c : mskL 99 teT = 9973633775208862158184899502782988652014162559984077957432497107663577660317945653364270855069339841912757393695667508419138616502675988349763370603685078197169130502216588341858469158333002888640514158837704124378283784216029405314905391711617989830443310639448105909982544987361671372964630995340360245158566413310339892875265224286927642401485295984321317140 := by kernel_rfl
theorem teT_len : teT.length = 1200 := by kernel_rfl
theorem thT_free : freB 7101785301779354474431297593141325305174821602580338963176467875697853990670085103076022723310977552365450806908944741914362249429307196558126961136639727690292978644776320053875527561865233891907652907545414112679899598080885383516846989125203599525278557558268570397704850000818430042407315827828846634070488139082600804026232430746680053382003717123792606825 10116694154606396143636080102911310178405103142868350958556768940702886700571660516321461813925068620920920112123016845874222677861509464466864648746088989654366524826879670827009152334654821231998814156873642413551446087187355185693045584640834367059456626217470863581009728586964271338389924944648801240485498573663670558865995085458638861053909794017243654550 0 1 600 = true := by kernel_rfl
theorem teT_free : freB 4915286697905664086366859451327333562811610988549902478154112637312134310032115395203539948106805531452297337634159085482027277571921256116331046230640583369985868088776752928353892991005592272641107080400882917602560740622351812468382599391200806300714997530712674119477680693879535703769668523015959624915817126478504613442267681557608211874530398975699489865 2329558983271224373515618741942313268754151196914709486146627071425028720891684570829673734059900799921316187702134993887419033216219416558897193048403055777504504880662649610672317747181459962624845825180469484250501160429859351426604582663219170453576875605578653949254352906541494304062941254121328004481603172957426856574694610360783060159897816181015454370 9973633775208862158184899502782988652014162559984077957432497107663577660317945653364270855069339841912757393695667508419138616502675988349763370603685078197169130502216588341858469158333002888640514158837704124378283784216029405314905391711617989830443310639448105909982544987361671372964630995340360245158566413310339892875265224286927642401485295984321317140 0 600 = true := by kernel_rfl
end Go.Proofs.Ytmnacanjbhlfeaa

