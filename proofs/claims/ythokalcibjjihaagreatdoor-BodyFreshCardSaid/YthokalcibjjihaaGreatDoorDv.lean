/- Numbers for the laws: what an act keeps; all words of a memory, one by one. -/
import Derived.Test.YthokalcibjjihaaGreatDoorDq
namespace Go.Proofs.YthokalcibjjihaaGreatDoor
open Go.ChangeShapes Go.WideShapes Go.ChangeAt Go.RowKit Go.Deep hd
set_option linter.unusedVariables false
namespace Pl
variable {P : Pl} {R R' : List (List Nat)} {t : Nat}
theorem hd_same {s : Nat} (e : P.slW R' t s 0 = P.slW R t s 0) : P.hdE R' t s = P.hdE R t s ∧ P.hdR R' t s = P.hdR R t s ∧ P.hdN R' t s = P.hdN R t s := by
  have a : P.hdE R' t s = P.hdE R t s := by unfold hdE hasO; rw [Int.toNat_natCast, e]
  refine ⟨a, ?_, ?_⟩
  · unfold hdR; rw [a, Int.toNat_natCast, e]
  · unfold hdN; rw [a, Int.toNat_natCast, e]
/-- every object's references are those of slots -/
def Inv (P : Pl) (R : List (List Nat)) (t : Nat) : Prop := ∀ s : Nat, s < P.S → P.hdE R t s = 0 → ∀ i, i < P.hdR R t s → P.slW R t s (1 + i) ≤ P.S
theorem Inv.refsE (h : Inv P R t) {s : Int} (a : P.hdE R t s = 0) : P.refsE R t s = 0 := by
  obtain ⟨b, _⟩ := hd_ok a
  obtain ⟨s', rfl, hs⟩ := isS_of b
  unfold Pl.refsE
  rw [if_pos a, if_pos]
  intro i hi
  rw [Int.toNat_natCast]
  exact h s' hs a i hi
theorem Inv.turn (h : Inv P R t) (k : ∀ s : Nat, s < P.S → P.hdE R' t s ≠ 0 ∨ (∀ i, 0 < i → i < P.sz s → P.slW R' t s i = 0) ∨ (P.slW R' t s 0 = P.slW R t s 0 ∧ ∀ i, i < P.hdR R t s → 1 + i < P.sz s → P.slW R' t s (1 + i) = P.slW R t s (1 + i) ∨ P.slW R' t s (1 + i) ≤ P.S)) : Inv P R' t := by
  intro s hs he i hi
  rcases k s hs with k | k | ⟨k0, k1⟩
  · exact absurd he k
  · have b := (hd_bounds he).1
    rw [Int.toNat_natCast] at b
    rw [k (1 + i) (by omega) (by omega)]
    omega
  · obtain ⟨e1, e2, _⟩ := hd_same k0
    rw [e1] at he
    rw [e2] at hi
    have b := (hd_bounds he).1
    rw [Int.toNat_natCast] at b
    rcases k1 i hi (by omega) with e | e
    · rw [e]; exact h s hs he i hi
    · exact e
theorem okH_nat {c r n : Int} (h : okH c r n = true) : ∃ C A N : Nat, c = C ∧ r = A ∧ n = N := by
  unfold okH at h
  obtain ⟨h1, _, h3, h4, _⟩ := of_decide_eq_true h
  exact ⟨c.toNat, r.toNat, n.toNat, by omega, by omega, by omega⟩
theorem lies_nat {s : Nat} {c r n : Int} (h : P.liesB s c r n = true) : ∃ C A N : Nat, c = C ∧ r = A ∧ n = N := by
  unfold liesB at h
  simp only [Bool.and_eq_true] at h
  exact okH_nat h.1.1
theorem mk_nat {s c r n : Int} (h : P.mkE R t s c r n = 0) : ∃ (s' C A N : Nat), s = s' ∧ c = C ∧ r = A ∧ n = N := by
  unfold mkE at h
  by_cases x : P.isS s = true ∧ P.liesB s.toNat c r n = true
  · obtain ⟨C, A, N, e1, e2, e3⟩ := lies_nat x.2
    obtain ⟨s', rfl, _⟩ := isS_of x.1
    exact ⟨s', C, A, N, rfl, e1, e2, e3⟩
  · rw [if_neg x] at h
    omega
theorem Inv.stp (g : P.Good) (hr : P.Reg R t) (h : Inv P R t) (st : Stp P R t R') : Inv P R' t := by
  cases st with
  | same => exact h
  | sref s i q =>
    by_cases e : P.srE R t s i q = 0
    · have e0 := e
      unfold srE at e
      by_cases c : P.isS s = true ∧ -1 ≤ q ∧ q < P.S
      · rw [if_pos c] at e
        obtain ⟨S, I, rfl, rfl, hS, a, b, b2, d⟩ := fd_ok e
        unfold srM
        rw [if_pos e0, Int.toNat_natCast, Int.toNat_natCast]
        obtain ⟨s0, s1, s2⟩ := set_there (u := (q + 1).toNat) g hr hS b2
        refine h.turn fun s' hs' => Or.inr (Or.inr ?_)
        by_cases c' : s' = S
        · subst c'
          refine ⟨s0, fun i _ _ => ?_⟩
          rw [s1]
          by_cases x : i = I
          · rw [if_pos x]; exact Or.inr (by omega)
          · rw [if_neg x]; exact Or.inl rfl
        · exact ⟨s2 s' 0 hs' c' (by have := (ad_bd g hs').2.2; omega), fun i _ hi => Or.inl (s2 s' (1 + i) hs' c' hi)⟩
      · rw [if_neg c] at e
        omega
    · unfold srM
      rw [if_neg e]
      exact h
  | sword s i u =>
    by_cases e : P.wdE R t s i = 0
    · have e0 := e
      unfold wdE at e
      obtain ⟨S, I, rfl, rfl, hS, a, b, b2, d⟩ := fd_ok e
      unfold swM
      rw [if_pos e0, Int.toNat_natCast, Int.toNat_natCast]
      obtain ⟨s0, s1, s2⟩ := set_there (u := u) g hr hS b2
      refine h.turn fun s' hs' => Or.inr (Or.inr ?_)
      by_cases c' : s' = S
      · subst c'
        refine ⟨s0, fun i hi _ => Or.inl ?_⟩
        have d' := of_decide_eq_false d
        rw [s1, if_neg (by omega)]
      · exact ⟨s2 s' 0 hs' c' (by have := (ad_bd g hs').2.2; omega), fun i _ hi => Or.inl (s2 s' (1 + i) hs' c' hi)⟩
    · unfold swM
      rw [if_neg e]
      exact h
  | wipe s =>
    by_cases a : P.isS s = true
    · obtain ⟨S, rfl, hS⟩ := isS_of a
      obtain ⟨w1, w2, w3⟩ := wiped g hr hS
      refine h.turn fun s' hs' => ?_
      by_cases c' : s' = S
      · subst c'
        exact Or.inl (by rw [w1]; decide)
      · exact Or.inr (Or.inr ⟨w3 s' 0 hs' c' (by have := (ad_bd g hs').2.2; omega), fun i _ hi => Or.inl (w3 s' (1 + i) hs' c' hi)⟩)
    · unfold wpM
      rw [if_neg a]
      exact h
  | make s c r n =>
    by_cases e : P.mkE R t s c r n = 0
    · obtain ⟨S, C, A, N, rfl, rfl, rfl, rfl⟩ := mk_nat e
      obtain ⟨hS, hl, ⟨m0, mz⟩, mo⟩ := made_there g hr e
      refine h.turn fun s' hs' => ?_
      by_cases c' : s' = S
      · subst c'
        exact Or.inr (Or.inl mz)
      · exact Or.inr (Or.inr ⟨mo s' 0 hs' c' (by have := (ad_bd g hs').2.2; omega), fun i _ hi => Or.inl (mo s' (1 + i) hs' c' hi)⟩)
    · unfold mkM
      rw [if_neg e]
      exact h
theorem Inv.zeros (c : Cf) (t : Nat) : Inv P c.zeros t := by
  intro s hs he
  obtain ⟨_, b⟩ := hd_ok he
  unfold hasO slW at b
  rw [wdAt_zeros, isW_zero] at b
  simp at b

/-! All words, one by one. -/
theorem flat_set0 {a u : Nat} (h : P.Reg R 0) (ha : a < P.W) : (setR R 0 a u).flatten = R.flatten.set a u := by
  obtain ⟨h1, h2⟩ := h
  cases R with
  | nil => simp at h1
  | cons r R =>
    simp only [List.getD_cons_zero] at h2
    unfold setR
    simp only [List.getD_cons_zero, List.set_cons_zero, List.flatten_cons]
    rw [List.set_append_left _ _ (by omega)]
theorem flat_wipe0 (h : P.Reg R 0) {a : Nat} : ∀ n, a + n ≤ P.W → (wipe R 0 a n).flatten.length = R.flatten.length ∧ ∀ j, (wipe R 0 a n).flatten[j]? = if a ≤ j ∧ j < a + n ∧ j < R.flatten.length then some 0 else R.flatten[j]?
  | 0, _ => ⟨rfl, fun j => by rw [if_neg (by omega)]; rfl⟩
  | n + 1, hn => by
    obtain ⟨l, k⟩ := flat_wipe0 (a := a) h n (by omega)
    have e : wipe R 0 a (n + 1) = setR (wipe R 0 a n) 0 (a + n) 0 := rfl
    rw [e, flat_set0 (h.wipe a n) (by omega)]
    refine ⟨by rw [List.length_set, l], fun j => ?_⟩
    rw [List.getElem?_set, l, k j]
    by_cases x : a + n = j
    · subst x
      rw [if_pos rfl]
      by_cases y : a + n < R.flatten.length
      · rw [if_pos y, if_pos ⟨by omega, by omega, y⟩]
      · rw [if_neg y, if_neg (by omega), List.getElem?_eq_none (by omega)]
    · rw [if_neg x]
      by_cases y : a ≤ j ∧ j < a + n ∧ j < R.flatten.length
      · rw [if_pos y, if_pos ⟨y.1, by omega, y.2.2⟩]
      · rw [if_neg y, if_neg fun z => y ⟨z.1, by omega, z.2.2⟩]
/-! Fields, one by one. -/
theorem hd_few {s : Int} (h : P.hdE R t s = 0) : P.hdR R t s + P.hdN R t s ≤ 63 := by
  have k := hd_okH h
  unfold okH at k
  have := of_decide_eq_true k
  omega
theorem each (h : Inv P R t) {s : Int} (a : P.hdE R t s = 0) (i : Int) :
    (∃ j : Nat, i = (j : Nat) ∧ j < P.hdR R t s ∧ P.rfE R t s i = 0 ∧ (P.refsL R t s)[j]? = some (P.rfR R t s i) ∧ P.wdE R t s i = 110) ∨
    (∃ j : Nat, i = ((P.hdR R t s : Nat) : Int) + (j : Nat) ∧ j < P.hdN R t s ∧ P.rfE R t s i = 110 ∧ P.wdE R t s i = 0 ∧ (P.wordsL R t s)[j]? = some (P.wdR R t s i)) ∨
    ((i < 0 ∨ ((P.hdR R t s : Nat) : Int) + ((P.hdN R t s : Nat) : Int) ≤ i) ∧ P.rfE R t s i = 110 ∧ P.wdE R t s i = 110) := by
  have rE := h.refsE a
  have rL : P.refsL R t s = P.refs R t s := by unfold refsL; rw [if_pos rE]
  rw [rL]
  by_cases c1 : 0 ≤ i ∧ i < P.hdR R t s
  · obtain ⟨j, rfl⟩ := Int.eq_ofNat_of_zero_le c1.1
    have e := ref_each a rE (i := j) (by omega)
    exact Or.inl ⟨j, rfl, by omega, e.1, e.2, word_none a (by omega)⟩
  · by_cases c2 : P.hdR R t s ≤ i ∧ i < P.hdR R t s + P.hdN R t s
    · obtain ⟨j, rfl⟩ : ∃ j : Nat, i = ((P.hdR R t s + j : Nat) : Int) := ⟨(i - P.hdR R t s).toNat, by omega⟩
      have e := word_each a (i := j) (by omega)
      exact Or.inr (Or.inl ⟨j, by omega, by omega, ref_none a c1, e.1, e.2⟩)
    · exact Or.inr (Or.inr ⟨by omega, ref_none a c1, word_none a c2⟩)
end Pl
theorem is_at {X : Nat → Prop} {w : World} {p : Option Addr} {n cap : Nat} {l : List Int} {x : Int} (h : Is X w (.slice p n cap) l) {j : Nat} (hj : l[j]? = some x) :
    ∃ b off, p = some ⟨b, off, none⟩ ∧ w.cell? ⟨b, off + j, none⟩ = some (.int .i64 x) := by
  rcases h with ⟨rfl, p', cap', e⟩ | ⟨b, off, cap', e, h2, h3, h4, h5, h6⟩
  · simp at hj
  · injection e with e1 e2 e3
    exact ⟨b, off, e1, h6 j x hj⟩
theorem ws_at {X : Nat → Prop} {w : World} {p : Option Addr} {n cap : Nat} {l : List Nat} {u : Nat} (h : mm.Ws X w (.slice p n cap) l) {j : Nat} (hj : l[j]? = some u) :
    ∃ b off, p = some ⟨b, off, none⟩ ∧ w.cell? ⟨b, off + j, none⟩ = some (.int .u64 (u : Nat)) := by
  rcases h with ⟨rfl, p', cap', e⟩ | ⟨b, off, cap', e, h2, h3, h4, h5, h6⟩
  · simp at hj
  · injection e with e1 e2 e3
    exact ⟨b, off, e1, h6 j u hj⟩

/-! For BodyGone and BodyFresh. -/
theorem Pl.gone {P : Pl} {R : List (List Nat)} (ok : Bok P R 0) {s : Nat} (hs : s < P.S) {M : Nat} (hM : P.sz s = M + 1) :
    P.wpE s = 0 ∧ P.hdE (P.wpM R 0 s) 0 s = 5 ∧ (P.wpM R 0 s).flatten.length = R.flatten.length ∧
    (∀ j, j < R.flatten.length → (P.wpM R 0 s).flatten[j]? = if P.ad s ≤ j ∧ j < P.ad s + P.sz s then some 0 else R.flatten[j]?) ∧
    P.mkE (P.wpM R 0 s) 0 s (P.cls s : Nat) 0 (M : Nat) = 0 ∧ P.hdE (P.mkM (P.wpM R 0 s) 0 s (P.cls s : Nat) 0 (M : Nat)) 0 s = 0 ∧ P.wordsL (P.mkM (P.wpM R 0 s) 0 s (P.cls s : Nat) 0 (M : Nat)) 0 s = List.replicate M 0 := by
  obtain ⟨w1, _, _⟩ := Pl.wiped ok.pl.1 ok.reg hs
  obtain ⟨z64, c7⟩ := Pl.sz_le ok.pl hs
  have z2 := (Pl.ad_bd ok.pl.1 hs).2.2
  have lie := Pl.full_lies z2 z64 c7
  have eM : P.wpM R 0 s = wipe R 0 (P.ad s) (P.sz s) := by unfold Pl.wpM; rw [if_pos (Pl.isS_nat hs), Int.toNat_natCast]
  obtain ⟨l, k⟩ := Pl.flat_wipe0 (a := P.ad s) ok.reg (P.sz s) (Pl.ad_words ok.pl.1 hs)
  have mk : P.mkE (P.wpM R 0 s) 0 s (P.cls s : Nat) 0 (M : Nat) = 0 := by
    unfold Pl.mkE
    rw [show ((P.sz s : Int) - 1) = (M : Nat) by omega] at lie
    rw [Int.toNat_natCast, if_pos ⟨Pl.isS_nat hs, lie⟩, w1]
    rfl
  have reg : P.Reg (P.wpM R 0 s) 0 := by rw [eM]; exact ok.reg.wipe _ _
  have fr := Pl.made_fresh ok.pl.1 reg (s := s) (C := P.cls s) (r := 0) (n := M) mk
  refine ⟨by unfold Pl.wpE; rw [if_pos (Pl.isS_nat hs)], w1, by rw [eM, l], fun j hj => ?_, mk, fr.1, fr.2.2.2.2.2⟩
  rw [eM, k]
  by_cases x : P.ad s ≤ j ∧ j < P.ad s + P.sz s
  · rw [if_pos ⟨x.1, x.2, hj⟩, if_pos x]
  · rw [if_neg x, if_neg fun y => x ⟨y.1, y.2.1⟩]
theorem ws_len {X : Nat → Prop} {w : World} {p : Option Addr} {n cap : Nat} {l : List Nat} (h : mm.Ws X w (.slice p n cap) l) : n = l.length := by
  rcases h with ⟨rfl, p', cap', e⟩ | ⟨b, off, cap', e, _⟩
  · injection e
  · injection e
/-- all words of a memory, in a block of their own -/
theorem pallx {w W : World} {mv : Value} {lo hi : Nat} {R : List (List Nat)} (hm : mm.IsMem w mv lo hi R) (hh : hi ≤ w.heap.size) (g : Bel w W) {N : Nat} (hN : R.flatten.length = N) :
    Calls Tryz.prog 14 #[mv] W fun e w' => (∃ p c, e = .returned (.slice p N c) ∧ mm.Ws (Own lo hi) w' (.slice p N c) R.flatten) ∧ Bel W w' := by
  refine (mm.pm_all mv lo hi R W (mem_bel hm g hh)).mono ?_
  rintro e w' ⟨⟨lv, rfl, hO⟩, b⟩
  have hw := hO.ws (X := Own lo hi) fun k hk _ x => by have := x.2; have := g.size; omega
  have hw' := hw
  rcases hw with ⟨e0, p, cap, rfl⟩ | ⟨b1, off1, cap1, rfl, hn⟩
  · have e1 := ws_len hw'
    rw [hN] at e1
    rw [e1] at hw'
    exact ⟨⟨p, cap, by rw [← e1], hw'⟩, b⟩
  · rw [hN] at hw'
    exact ⟨⟨_, _, by rw [hN], hw'⟩, b⟩
theorem ten_of {X : Nat → Prop} {w : World} {x0 x1 x3 x4 x5 x6 : Value} {bl ol m cl t : Nat} {R : List (List Nat)} {P : Pl} (h : IsB X w (.agg #[x0, x1, .slice (some ⟨bl, ol, none⟩) m cl, x3, x4, x5, x6]) R t P) {i : Nat} (hi : i < P.S) :
    Ten w bl (ol + i * 4) (P.cls i : Nat) (P.sz i : Nat) (P.ad i : Nat) (P.pg i : Nat) := by
  obtain ⟨pr, cr, bl', ol', cl', pf, cf, pm, cm, p, cap, e, h1, _, _⟩ := h.shape
  injection e with e
  injection e with e
  simp only [List.cons.injEq, and_true] at e
  have e2 := e.2.2.1
  injection e2 with e2 _ _
  injection e2 with e2
  injection e2 with e3 e4
  rw [e3, e4]
  exact h1 i hi
theorem Lp.plan {w5 wr : World} {v mv q : Value} {lo hi top Bq t : Nat} {R : List (List Nat)} {P : Pl} {x0 x1 x2 x3 x4 x5 x6 : Value} (h : Lp w5 wr v mv lo hi top Bq R t P q x0 x1 x2 x3 x4 x5 x6) : IsQ wr (.agg #[x2, x3, x4, x5, x6]) P := by
  obtain ⟨pr, cr, bl', ol', cl', pf, cf, pm, cm, p, cap, e, _, _, hq⟩ := h.doc.shape
  rw [h.val] at e
  injection e with e
  injection e with e
  simp only [List.cons.injEq, and_true] at e
  rw [e.2.2.1, e.2.2.2.1, e.2.2.2.2.1, e.2.2.2.2.2.1, e.2.2.2.2.2.2]
  exact hq
theorem box4 {w : World} {b : Nat} {x y z u : Value} {t : TypeId} (h : w.heap[b]? = some (.cells #[x, y, z, u] t (0, 0))) :
    w.cell? ⟨b, 0, none⟩ = some x ∧ w.cell? ⟨b, 1, none⟩ = some y ∧ w.cell? ⟨b, 2, none⟩ = some z ∧ w.cell? ⟨b, 3, none⟩ = some u :=
  ⟨cell_of_row w b 0 _ _ (0, 0) h, cell_of_row w b 1 _ _ (0, 0) h, cell_of_row w b 2 _ _ (0, 0) h, cell_of_row w b 3 _ _ (0, 0) h⟩

/-! SetRef and SetWord of one field, in any order. -/
namespace Pl
variable {P : Pl} {R R' : List (List Nat)}
/-- what the two answer and leave -/
def Kept (P : Pl) (R R' : List (List Nat)) (s i q : Int) (u : Nat) (g k : Int) : Prop :=
  (g = 0 → P.rfE R' 0 s i = 0 ∧ P.rfR R' 0 s i = q) ∧ (k = 0 → P.wdE R' 0 s i = 0 ∧ P.wdR R' 0 s i = u) ∧ ¬ (g = 0 ∧ k = 0) ∧ ((g = 0 ∨ k = 0) → 0 ≤ i ∧ i ≤ 63) ∧ R'.flatten.length = R.flatten.length ∧
    ∀ j : Nat, R'.flatten[j]? = R.flatten[j]? ∨ ((g = 0 ∨ k = 0) ∧ (j : Int) = (P.ad s.toNat : Int) + 1 + i)
theorem flat_one (ok : Bok P R 0) {S I u : Nat} (hS : S < P.S) (hI : 1 + I < P.sz S) : (setR R 0 (P.ad S + 1 + I) u).flatten.length = R.flatten.length ∧ ∀ j : Nat, (setR R 0 (P.ad S + 1 + I) u).flatten[j]? = R.flatten[j]? ∨ (j : Int) = (P.ad S : Int) + 1 + (I : Nat) := by
  have := ad_words ok.pl.1 hS
  rw [flat_set0 ok.reg (by omega)]
  refine ⟨List.length_set, fun j => ?_⟩
  by_cases x : P.ad S + 1 + I = j
  · exact Or.inr (by omega)
  · exact Or.inl (by rw [List.getElem?_set, if_neg x])
/-- SetRef went well: the field is a reference -/
theorem sr_ok {s i q : Int} (h : P.srE R 0 s i q = 0) : -1 ≤ q ∧ q < P.S ∧ P.wdE R 0 s i = 110 ∧ ∃ S I : Nat, s = S ∧ i = I ∧ S < P.S ∧ 1 + I < P.sz S ∧ P.srM R 0 s i q = setR R 0 (P.ad S + 1 + I) (q + 1).toNat := by
  have h' := h
  unfold srE at h
  by_cases c : P.isS s = true ∧ -1 ≤ q ∧ q < P.S
  · rw [if_pos c] at h
    obtain ⟨S, I, rfl, rfl, hS, a, b, b2, d⟩ := fd_ok h
    have d' := of_decide_eq_true d
    refine ⟨c.2.1, c.2.2, word_none a (by omega), S, I, rfl, rfl, hS, b2, ?_⟩
    unfold srM
    rw [if_pos h', Int.toNat_natCast, Int.toNat_natCast]
  · rw [if_neg c] at h
    omega
theorem sr_no {s i q : Int} (h : P.srE R 0 s i q ≠ 0) : P.srM R 0 s i q = R := by unfold srM; rw [if_neg h]
theorem sw_no {s i : Int} {u : Nat} (h : P.wdE R 0 s i ≠ 0) : P.swM R 0 s i u = R := by unfold swM; rw [if_neg h]
theorem sw_ok {s i : Int} {u : Nat} (h : P.wdE R 0 s i = 0) : ∃ S I : Nat, s = S ∧ i = I ∧ S < P.S ∧ 1 + I < P.sz S ∧ P.swM R 0 s i u = setR R 0 (P.ad S + 1 + I) u := by
  have h' := h
  unfold wdE at h
  obtain ⟨S, I, rfl, rfl, hS, a, b, b2, d⟩ := fd_ok h
  refine ⟨S, I, rfl, rfl, hS, b2, ?_⟩
  unfold swM
  rw [if_pos h', Int.toNat_natCast, Int.toNat_natCast]
theorem kept_ref (ok : Bok P R 0) {s i q : Int} {u : Nat} {k : Int} (h : P.srE R 0 s i q = 0) (hk : k ≠ 0) : Kept P R (P.srM R 0 s i q) s i q u (P.srE R 0 s i q) k := by
  obtain ⟨h1, h2, h3, S, I, rfl, rfl, hS, b2, e⟩ := sr_ok h
  obtain ⟨r1, r2, r3⟩ := ref_set ok.pl.1 ok.reg h h1 h2
  obtain ⟨f1, f2⟩ := flat_one ok (u := (q + 1).toNat) hS b2
  refine ⟨fun _ => ⟨r1, r2⟩, fun x => absurd x hk, fun x => hk x.2, fun _ => ⟨by omega, by have := (sz_le ok.pl hS).1; omega⟩, by rw [e, f1], fun j => ?_⟩
  rw [e]
  rcases f2 j with x | x
  · exact Or.inl x
  · exact Or.inr ⟨Or.inl h, by rw [Int.toNat_natCast]; exact x⟩
theorem kept_word (ok : Bok P R 0) {s i q : Int} {u : Nat} {g : Int} (h : P.wdE R 0 s i = 0) (hg : g ≠ 0) : Kept P R (P.swM R 0 s i u) s i q u g (P.wdE R 0 s i) := by
  obtain ⟨S, I, rfl, rfl, hS, b2, e⟩ := sw_ok (u := u) h
  obtain ⟨r1, r2, r3⟩ := word_set (u := u) ok.pl.1 ok.reg h
  obtain ⟨f1, f2⟩ := flat_one ok (u := u) hS b2
  refine ⟨fun x => absurd x hg, fun _ => ⟨r1, r2⟩, fun x => hg x.1, fun _ => ⟨by omega, by have := (sz_le ok.pl hS).1; omega⟩, by rw [e, f1], fun j => ?_⟩
  rw [e]
  rcases f2 j with x | x
  · exact Or.inl x
  · exact Or.inr ⟨Or.inr h, by rw [Int.toNat_natCast]; exact x⟩
theorem kept_none {s i q : Int} {u : Nat} {g k : Int} (hg : g ≠ 0) (hk : k ≠ 0) : Kept P R R s i q u g k :=
  ⟨fun x => absurd x hg, fun x => absurd x hk, fun x => hg x.1, fun x => x.elim (fun y => absurd y hg) (fun y => absurd y hk), rfl, fun j => Or.inl rfl⟩
/-- SetRef first -/
theorem kept_ab (ok : Bok P R 0) (s i q : Int) (u : Nat) : Kept P R (P.swM (P.srM R 0 s i q) 0 s i u) s i q u (P.srE R 0 s i q) (P.wdE (P.srM R 0 s i q) 0 s i) := by
  by_cases a : P.srE R 0 s i q = 0
  · obtain ⟨h1, h2, h3, _⟩ := sr_ok a
    obtain ⟨_, _, r3⟩ := ref_set ok.pl.1 ok.reg a h1 h2
    have k0 : P.wdE (P.srM R 0 s i q) 0 s i ≠ 0 := by rw [r3]; decide
    rw [sw_no k0]
    exact kept_ref ok a k0
  · rw [sr_no a]
    by_cases b : P.wdE R 0 s i = 0
    · exact kept_word ok b a
    · rw [sw_no b]
      exact kept_none a b
/-- SetWord first -/
theorem kept_ba (ok : Bok P R 0) (s i q : Int) (u : Nat) : Kept P R (P.srM (P.swM R 0 s i u) 0 s i q) s i q u (P.srE (P.swM R 0 s i u) 0 s i q) (P.wdE R 0 s i) := by
  by_cases b : P.wdE R 0 s i = 0
  · obtain ⟨_, _, r3⟩ := word_set (u := u) ok.pl.1 ok.reg b
    have g0 : P.srE (P.swM R 0 s i u) 0 s i q ≠ 0 := by
      unfold srE
      split
      · rw [r3]; decide
      · decide
    rw [sr_no g0]
    exact kept_word ok b g0
  · rw [sw_no b]
    by_cases a : P.srE R 0 s i q = 0
    · exact kept_ref ok a b
    · rw [sr_no a]
      exact kept_none a b
end Pl
/-- the memory alone behind a store -/
theorem Lp.store {w5 w0 wr w6 : World} {v mv q : Value} {lo hi top Bq t : Nat} {R S S' : List (List Nat)} {P : Pl} {x0 x1 x2 x3 x4 x5 x6 : Value} (h : Lp w5 w0 v mv lo hi top Bq R t P q x0 x1 x2 x3 x4 x5 x6) (hE : Exc (Own lo hi) w0 wr) (hD : IsD wr v lo hi top S t P)
    (hE6 : Exc (Own lo hi) wr w6) (hm : mm.IsMem w6 mv lo hi S') (ok : Bok P S' t) : IsD w6 v lo hi top S' t P ∧ Exc (Own lo hi) w0 w6 := by
  obtain ⟨p, e, c⟩ := h.own
  obtain ⟨_, _, _, po⟩ := h.mem.memv e c
  exact ⟨hD.poke e (cell_exc hE c po) hE6 hm ok, hE.trans hE6⟩
/-- what Make leaves -/
theorem Pl.fresh {P : Pl} {R : List (List Nat)} (ok : Bok P R 0) {s C r n : Nat} (hm : P.mkE R 0 s C r n = 0) : P.hdE (P.mkM R 0 s C r n) 0 s = 0 ∧ P.refsE (P.mkM R 0 s C r n) 0 s = 0 ∧ P.refsL (P.mkM R 0 s C r n) 0 s = List.replicate r (-1) ∧ P.wordsL (P.mkM R 0 s C r n) 0 s = List.replicate n 0 := by
  obtain ⟨a, _, _, b, c, d⟩ := Pl.made_fresh ok.pl.1 ok.reg hm
  exact ⟨a, b, by unfold Pl.refsL; rw [if_pos b, c], d⟩
end Go.Proofs.YthokalcibjjihaaGreatDoor
