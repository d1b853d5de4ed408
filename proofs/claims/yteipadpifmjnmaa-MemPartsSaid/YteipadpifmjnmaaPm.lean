/- WHAT THE PROGRAM'S MEMORIES DO: one contract for each call. -/
import Derived.Test.YteipadpifmjnmaaPnw
namespace Go.Proofs.Yteipadpifmjnmaa
open Go.ChangeShapes Go.WideShapes Go.ChangeAt Go.RowKit Go.Deep
set_option linter.unusedVariables false

theorem MemAt.edges {w : World} {p g1 k1 g2 k2 : Nat} {R : List (List Nat)} (h : MemAt w p g1 k1 g2 k2 R) : Edges w p g2 (R.length + 1) k2 :=
  ⟨h.c1, by have := h.pos; omega, (own_cap h.edg).1, (own_cap h.edg).2.1⟩
theorem MemAt.tot {w : World} {p g1 k1 g2 k2 : Nat} {R : List (List Nat)} (h : MemAt w p g1 k1 g2 k2 R) {t : Nat} {l : List Nat} (ht : R[t]? = some l) : offR R t + l.length ≤ 1000000 :=
  Nat.le_trans (flat_len ht) (flat_bd h.full h.pos).2

theorem mreg_yes {w : World} {p g1 k1 g2 k2 : Nat} {R : List (List Nat)} (h : MemAt w p g1 k1 g2 k2 R) {t : Nat} {l : List Nat} (ht : R[t]? = some l) :
    ∀ W, Bel w W → Calls Try.prog 35 #[.pointer (some ⟨p, 0, none⟩), .int .i64 (t : Nat)] W fun r w' => r = .returned (.tuple #[.int .i64 (offR R t : Nat), .int .i64 (offR R t + l.length : Nat)]) ∧ Bel W w' := fun W g => by
  have hlt := (List.getElem?_eq_some_iff.1 ht).1
  have hM := h.bel g
  have e1 := hM.edge (t := t + 1) (by omega)
  rw [offR_succ ht] at e1
  exact preg_yes p g2 (R.length + 1) k2 t _ _ W hM.edges (by omega) (hM.edge (by omega)) e1
theorem mreg_arg {w : World} {p g1 k1 g2 k2 : Nat} {R : List (List Nat)} (h : MemAt w p g1 k1 g2 k2 R) {t : Int} (ht : t < 0 ∨ (R.length : Int) ≤ t) :
    ∀ W, Bel w W → Calls Try.prog 35 #[.pointer (some ⟨p, 0, none⟩), .int .i64 t] W fun e w' => e = gaveUp 2 ∧ w' = W := fun W g =>
  preg_arg p g2 (R.length + 1) k2 t W (h.bel g).edges (by omega)
theorem gives_bel {f : Nat} {args : Array Value} {W : World} {x : Int} (h : Calls Try.prog f args W fun e w' => e = gaveUp x ∧ w' = W) : Calls Try.prog f args W fun e w' => e = gaveUp x ∧ Bel W w' := by
  refine h.mono ?_
  rintro e w' ⟨rfl, rfl⟩
  exact ⟨rfl, Bel.refl _⟩
theorem mpos_none {w : World} {v : Value} (h : NoMem w v) (t a n : Int) : ∀ W, Bel w W → Calls Try.prog 38 #[v, .int .i64 t, .int .i64 a, .int .i64 n] W fun e w' => e = gaveUp 1 ∧ Bel W w' := fun W g =>
  gives_bel (ppos_gives v t a n 1 W (preg_none v t W (h.bel g)))
theorem mpos_arg {w : World} {p g1 k1 g2 k2 : Nat} {R : List (List Nat)} (h : MemAt w p g1 k1 g2 k2 R) {t : Int} (ht : t < 0 ∨ (R.length : Int) ≤ t) (a n : Int) :
    ∀ W, Bel w W → Calls Try.prog 38 #[.pointer (some ⟨p, 0, none⟩), .int .i64 t, .int .i64 a, .int .i64 n] W fun e w' => e = gaveUp 2 ∧ Bel W w' := fun W g =>
  gives_bel (ppos_gives _ t a n 2 W (mreg_arg h ht W g))
theorem mpos_no {w : World} {p g1 k1 g2 k2 : Nat} {R : List (List Nat)} (h : MemAt w p g1 k1 g2 k2 R) {t : Nat} {l : List Nat} (ht : R[t]? = some l) {a n : Int} (hn : -9223372036854775808 ≤ n ∧ n ≤ 9223372036854775807) (no : a < 0 ∨ n < 0 ∨ (l.length : Int) - n < a) :
    ∀ W, Bel w W → Calls Try.prog 38 #[.pointer (some ⟨p, 0, none⟩), .int .i64 (t : Nat), .int .i64 a, .int .i64 n] W fun e w' => e = gaveUp 4 ∧ Bel W w' := fun W g =>
  ppos_no _ t a n (offR R t) (offR R t + l.length) W (mreg_yes h ht W g) (by omega) (h.tot ht) hn (by omega)
theorem mpos_yes {w : World} {p g1 k1 g2 k2 : Nat} {R : List (List Nat)} (h : MemAt w p g1 k1 g2 k2 R) {t : Nat} {l : List Nat} (ht : R[t]? = some l) {a n : Nat} (ha : a + n ≤ l.length) :
    ∀ W, Bel w W → Calls Try.prog 38 #[.pointer (some ⟨p, 0, none⟩), .int .i64 (t : Nat), .int .i64 (a : Nat), .int .i64 (n : Nat)] W fun e w' => e = .returned (.int .i64 (offR R t + a : Nat)) ∧ Bel W w' := fun W g =>
  ppos_yes _ t a n (offR R t) (offR R t + l.length) W (mreg_yes h ht W g) (h.tot ht) (by omega)

/-- which way an address goes -/
theorem inE_cases (R : List (List Nat)) (t a : Int) :
    (inE R t a = 2 ∧ (t < 0 ∨ (R.length : Int) ≤ t)) ∨ (∃ (t' : Nat) (l : List Nat), t = t' ∧ R[t']? = some l ∧ inE R t a = 4 ∧ (a < 0 ∨ (l.length : Int) ≤ a)) ∨ (∃ (t' a' u : Nat) (l : List Nat), t = t' ∧ a = a' ∧ R[t']? = some l ∧ l[a']? = some u ∧ inE R t a = 0 ∧ loadR R t a = u) := by
  by_cases z : inE R t a = 0
  · obtain ⟨t', a', l, u, rfl, rfl, h1, h2, h3, h4⟩ := inE_ok z
    exact Or.inr (Or.inr ⟨t', a', u, l, rfl, rfl, h1, h2, z, by unfold loadR; rw [if_pos z, Int.toNat_natCast, Int.toNat_natCast, h3, h4]⟩)
  · by_cases c : t < 0 ∨ (R.length : Int) ≤ t
    · exact Or.inl ⟨if_pos c, c⟩
    · have e1 : t.toNat < R.length := by omega
      have e2 : R.getD t.toNat [] = R[t.toNat] := by rw [List.getD_eq_getElem?_getD, List.getElem?_eq_getElem e1]; rfl
      refine Or.inr (Or.inl ⟨t.toNat, R[t.toNat], by omega, List.getElem?_eq_getElem e1, ?_⟩)
      unfold inE at z ⊢
      rw [if_neg c, e2] at z
      rw [if_neg c, e2]
      by_cases d : a < 0 ∨ ((R[t.toNat]).length : Int) ≤ a
      · exact ⟨if_pos d, d⟩
      · rw [if_neg d] at z; exact absurd rfl z
theorem zeroE_cases (R : List (List Nat)) (t a n : Int) :
    (zeroE R t a n = 2 ∧ (t < 0 ∨ (R.length : Int) ≤ t)) ∨ (∃ (t' : Nat) (l : List Nat), t = t' ∧ R[t']? = some l ∧ zeroE R t a n = 4 ∧ (a < 0 ∨ n < 0 ∨ (l.length : Int) - n < a)) ∨ (∃ (t' a' n' : Nat) (l : List Nat), t = t' ∧ a = a' ∧ n = n' ∧ R[t']? = some l ∧ a' + n' ≤ l.length ∧ zeroE R t a n = 0) := by
  by_cases z : zeroE R t a n = 0
  · obtain ⟨t', a', n', l, rfl, rfl, rfl, h1, h2, h3⟩ := zeroE_ok z
    exact Or.inr (Or.inr ⟨t', a', n', l, rfl, rfl, rfl, h1, h3, z⟩)
  · by_cases c : t < 0 ∨ (R.length : Int) ≤ t
    · exact Or.inl ⟨if_pos c, c⟩
    · have e1 : t.toNat < R.length := by omega
      have e2 : R.getD t.toNat [] = R[t.toNat] := by rw [List.getD_eq_getElem?_getD, List.getElem?_eq_getElem e1]; rfl
      refine Or.inr (Or.inl ⟨t.toNat, R[t.toNat], by omega, List.getElem?_eq_getElem e1, ?_⟩)
      unfold zeroE at z ⊢
      rw [if_neg c, e2] at z
      rw [if_neg c, e2]
      by_cases d : a < 0 ∨ n < 0 ∨ ((R[t.toNat]).length : Int) < a ∨ ((R[t.toNat]).length : Int) - a < n
      · exact ⟨if_pos d, by omega⟩
      · rw [if_neg d] at z; exact absurd rfl z

theorem IsMem.own {w : World} {lo hi p g1 k1 g2 k2 : Nat} {R : List (List Nat)} (a : lo ≤ p ∧ p < hi) (b : lo ≤ g1 ∧ g1 < hi) (c : lo ≤ g2 ∧ g2 < hi) (m : MemAt w p g1 k1 g2 k2 R) : IsMem w (.pointer (some ⟨p, 0, none⟩)) lo hi R := ⟨p, g1, k1, g2, k2, rfl, a, b, c, m⟩

theorem pm_new_ok (v : Value) (c : Cf) (w : World) (h : IsCf w v c) (ok : c.ok) (hT : c.base c.m ≤ 4000) :
    Calls Try.prog 9 #[v] w fun e w' => (∃ p, e = .returned (.tuple #[.pointer (some p), .int .i64 0]) ∧ IsMem w' (.pointer (some p)) w.heap.size w'.heap.size c.zeros) ∧ Bel w w' := pn_yes v c w h ok hT
theorem pm_new_no (v : Value) (c : Cf) (w : World) (h : IsCf w v c) (ok : ¬ c.ok) :
    Calls Try.prog 9 #[v] w fun e w' => e = .returned (.tuple #[.pointer none, .int .i64 2]) ∧ Bel w w' := pn_no v c w h ok
theorem pm_load (v : Value) (lo hi : Nat) (R : List (List Nat)) (t a : Int) (w : World) (h : IsMem w v lo hi R) :
    Calls Try.prog 17 #[v, .int .i64 t, .int .i64 a] w fun e w' => e = .returned (.tuple #[.int .u64 (loadR R t a : Nat), .int .i64 (inE R t a)]) ∧ Bel w w' := by
  obtain ⟨p, g1, k1, g2, k2, rfl, _, _, _, hM⟩ := h
  rcases inE_cases R t a with ⟨e, ht⟩ | ⟨t', l, rfl, ht, e, ha⟩ | ⟨t', a', u, l, rfl, rfl, ht, hu, e, eu⟩
  · rw [show loadR R t a = 0 from if_neg (by rw [e]; decide), e]
    exact pl_no _ t a 2 w (mpos_arg hM ht a 1)
  · rw [show loadR R t' a = 0 from if_neg (by rw [e]; decide), e]
    exact pl_no _ t' a 4 w (mpos_no hM ht (by omega) (by omega))
  · rw [eu, e]
    have ha := (List.getElem?_eq_some_iff.1 hu).1
    have fu := flat_at ht ha
    exact pl_yes p g1 _ k1 (offR R t' + a') u t' a' w hM.c0 (hM.word (fu.trans hu)) (by have := flat_len ht; omega) (mpos_yes hM ht (n := 1) (by omega))
theorem pm_store (v : Value) (lo hi : Nat) (R : List (List Nat)) (t a : Int) (u : Nat) (w : World) (h : IsMem w v lo hi R) (hh : hi ≤ w.heap.size) :
    Calls Try.prog 16 #[v, .int .i64 t, .int .i64 a, .int .u64 (u : Nat)] w fun e w' => e = .returned (.int .i64 (inE R t a)) ∧ IsMem w' v lo hi (storeR R t a u) ∧ Exc (Own lo hi) w w' := by
  have hI := h
  obtain ⟨p, g1, k1, g2, k2, rfl, hp, h1, h2, hM⟩ := h
  have no : ∀ x : Int, inE R t a = x → x ≠ 0 → (∀ W, Bel w W → Calls Try.prog 38 #[.pointer (some ⟨p, 0, none⟩), .int .i64 t, .int .i64 a, .int .i64 1] W fun e w' => e = gaveUp x ∧ Bel W w') →
      Calls Try.prog 16 #[.pointer (some ⟨p, 0, none⟩), .int .i64 t, .int .i64 a, .int .u64 (u : Nat)] w fun e w' => e = .returned (.int .i64 (inE R t a)) ∧ IsMem w' (.pointer (some ⟨p, 0, none⟩)) lo hi (storeR R t a u) ∧ Exc (Own lo hi) w w' := by
    intro x ex hx hp
    rw [show storeR R t a u = R from if_neg (by rw [ex]; exact hx), ex]
    refine (ps_no _ t a x u w hp).mono ?_
    rintro e w' ⟨rfl, g⟩
    exact ⟨rfl, hI.keep fun k _ hk => g.block k (by omega), g.exc⟩
  rcases inE_cases R t a with ⟨e, ht⟩ | ⟨t', l, rfl, ht, e, ha⟩ | ⟨t', a', _, l, rfl, rfl, ht, hu, e, eu⟩
  · exact no 2 e (by decide) (mpos_arg hM ht a 1)
  · exact no 4 e (by decide) (mpos_no hM ht (by omega) (by omega))
  · have ha := (List.getElem?_eq_some_iff.1 hu).1
    rw [show storeR R t' a' u = setR R t' a' u from if_pos e, e]
    refine (ps_yes p g1 k1 g2 k2 R t' a' u l t' a' w hM ht ha (mpos_yes hM ht (n := 1) (by omega))).mono ?_
    rintro e w' ⟨rfl, m, x⟩
    exact ⟨rfl, IsMem.own hp h1 h2 m, x.mono fun k hk => by subst hk; exact h1⟩
theorem pm_zero (v : Value) (lo hi : Nat) (R : List (List Nat)) (t a n : Int) (w : World) (h : IsMem w v lo hi R) (hh : hi ≤ w.heap.size) (hn : -9223372036854775808 ≤ n ∧ n ≤ 9223372036854775807) :
    Calls Try.prog 15 #[v, .int .i64 t, .int .i64 a, .int .i64 n] w fun e w' => e = .returned (.int .i64 (zeroE R t a n)) ∧ IsMem w' v lo hi (zeroR R t a n) ∧ Exc (Own lo hi) w w' := by
  have hI := h
  obtain ⟨p, g1, k1, g2, k2, rfl, hp, h1, h2, hM⟩ := h
  have no : ∀ x : Int, zeroE R t a n = x → x ≠ 0 → (∀ W, Bel w W → Calls Try.prog 38 #[.pointer (some ⟨p, 0, none⟩), .int .i64 t, .int .i64 a, .int .i64 n] W fun e w' => e = gaveUp x ∧ Bel W w') →
      Calls Try.prog 15 #[.pointer (some ⟨p, 0, none⟩), .int .i64 t, .int .i64 a, .int .i64 n] w fun e w' => e = .returned (.int .i64 (zeroE R t a n)) ∧ IsMem w' (.pointer (some ⟨p, 0, none⟩)) lo hi (zeroR R t a n) ∧ Exc (Own lo hi) w w' := by
    intro x ex hx hp
    rw [show zeroR R t a n = R from if_neg (by rw [ex]; exact hx), ex]
    refine (pz_no _ t a n x w hp).mono ?_
    rintro e w' ⟨rfl, g⟩
    exact ⟨rfl, hI.keep fun k _ hk => g.block k (by omega), g.exc⟩
  rcases zeroE_cases R t a n with ⟨e, ht⟩ | ⟨t', l, rfl, ht, e, ha⟩ | ⟨t', a', n', l, rfl, rfl, rfl, ht, ha, e⟩
  · exact no 2 e (by decide) (mpos_arg hM ht a n)
  · exact no 4 e (by decide) (mpos_no hM ht hn ha)
  · rw [show zeroR R t' a' n' = wipe R t' a' n' from if_pos e, e]
    refine (pz_yes p g1 k1 g2 k2 R t' a' n' l t' a' w hM ht ha (mpos_yes hM ht ha)).mono ?_
    rintro e w' ⟨rfl, m, x⟩
    exact ⟨rfl, IsMem.own hp h1 h2 m, x.mono fun k hk => by subst hk; exact h1⟩
theorem pm_words (v : Value) (lo hi : Nat) (R : List (List Nat)) (t : Int) (w : World) (h : IsMem w v lo hi R) :
    Calls Try.prog 14 #[v, .int .i64 t] w fun e w' => (∃ lv, e = .returned (.tuple #[lv, .int .i64 (wordsE R t)]) ∧ Ws (fun k => k < w.heap.size) w' lv (wordsR R t)) ∧ Bel w w' := by
  obtain ⟨p, g1, k1, g2, k2, rfl, _, _, _, hM⟩ := h
  by_cases c : t < 0 ∨ (R.length : Int) ≤ t
  · have e : wordsE R t = 2 := if_pos c
    rw [show wordsR R t = [] from if_neg (by rw [e]; decide), e]
    refine (pw_no _ t 2 w (mreg_arg hM c)).mono ?_
    rintro e w' ⟨rfl, g⟩
    exact ⟨⟨_, rfl, Or.inl ⟨rfl, _, _, rfl⟩⟩, g⟩
  · have e : wordsE R t = 0 := if_neg c
    obtain ⟨t', rfl⟩ : ∃ t' : Nat, t = t' := ⟨t.toNat, by omega⟩
    have e1 : t' < R.length := by omega
    have e2 : R.getD t' [] = R[t'] := by rw [List.getD_eq_getElem?_getD, List.getElem?_eq_getElem e1]; rfl
    rw [show wordsR R t' = R[t'] by unfold wordsR; rw [if_pos e, Int.toNat_natCast, e2], e]
    exact pw_yes p g1 k1 g2 k2 R t' _ w hM (List.getElem?_eq_getElem e1) (mreg_yes hM (List.getElem?_eq_getElem e1))
theorem pm_all (v : Value) (lo hi : Nat) (R : List (List Nat)) (w : World) (h : IsMem w v lo hi R) :
    Calls Try.prog 20 #[v] w fun e w' => (∃ lv, e = .returned lv ∧ Own64 w.heap.size w' lv R.flatten) ∧ Bel w w' := by
  obtain ⟨p, g1, k1, g2, k2, rfl, _, _, _, hM⟩ := h
  refine (pa_yes p g1 k1 g2 k2 R w hM).mono ?_
  rintro e w' ⟨⟨g, cap, rfl, o⟩, b⟩
  exact ⟨⟨_, rfl, o⟩, b⟩
theorem pm_copy (v : Value) (lo hi : Nat) (R : List (List Nat)) (w : World) (h : IsMem w v lo hi R) :
    Calls Try.prog 19 #[v] w fun e w' => (∃ p, e = .returned (.pointer (some p)) ∧ IsMem w' (.pointer (some p)) w.heap.size w'.heap.size R) ∧ Bel w w' := by
  obtain ⟨p, g1, k1, g2, k2, rfl, _, _, _, hM⟩ := h
  exact pc_yes p g1 k1 g2 k2 R w hM

theorem pn_load (t a : Int) (w : World) :
    Calls Try.prog 17 #[.pointer none, .int .i64 t, .int .i64 a] w fun e w' => e = .returned (.tuple #[.int .u64 0, .int .i64 1]) ∧ Bel w w' := pl_no _ t a 1 w (mpos_none (Or.inl rfl) t a 1)
theorem pn_store (t a : Int) (u : Nat) (w : World) :
    Calls Try.prog 16 #[.pointer none, .int .i64 t, .int .i64 a, .int .u64 (u : Nat)] w fun e w' => e = .returned (.int .i64 1) ∧ Bel w w' := ps_no _ t a 1 u w (mpos_none (Or.inl rfl) t a 1)
theorem pn_all (w : World) :
    Calls Try.prog 20 #[.pointer none] w fun e w' => (∃ p cap, e = .returned (.slice p 0 cap)) ∧ Bel w w' := by
  refine (pa_none _ w (Or.inl rfl)).mono ?_
  rintro e w' ⟨rfl, rfl⟩
  exact ⟨⟨_, _, rfl⟩, Bel.refl _⟩
theorem pn_copy (w : World) :
    Calls Try.prog 19 #[.pointer none] w fun e w' => e = .returned (.pointer none) ∧ Bel w w' := by
  refine (pc_none _ w (Or.inl rfl)).mono ?_
  rintro e w' ⟨rfl, rfl⟩
  exact ⟨rfl, Bel.refl _⟩
theorem pz_made (w : World) : IsZero (w.alloc (.cells #[.slice none 0 0, .slice none 0 0] 57)) w.heap.size := heap_alloc_new w _
theorem pz_words (b : Nat) (t : Int) (w : World) (h : IsZero w b) :
    Calls Try.prog 14 #[.pointer (some ⟨b, 0, none⟩), .int .i64 t] w fun e w' => (∃ lv, e = .returned (.tuple #[lv, .int .i64 1])) ∧ Bel w w' := by
  refine (pw_no _ t 1 w fun W g => preg_none _ t W (h.none.bel g)).mono ?_
  rintro e w' ⟨rfl, g⟩
  exact ⟨⟨_, rfl⟩, g⟩
theorem pz_zero (b : Nat) (t a n : Int) (w : World) (h : IsZero w b) :
    Calls Try.prog 15 #[.pointer (some ⟨b, 0, none⟩), .int .i64 t, .int .i64 a, .int .i64 n] w fun e w' => e = .returned (.int .i64 1) ∧ Bel w w' := pz_no _ t a n 1 w (mpos_none h.none t a n)
theorem pz_all (b : Nat) (w : World) (h : IsZero w b) :
    Calls Try.prog 20 #[.pointer (some ⟨b, 0, none⟩)] w fun e w' => (∃ p cap, e = .returned (.slice p 0 cap)) ∧ Bel w w' := by
  refine (pa_none _ w h.none).mono ?_
  rintro e w' ⟨rfl, rfl⟩
  exact ⟨⟨_, _, rfl⟩, Bel.refl _⟩
theorem pz_copy (b : Nat) (w : World) (h : IsZero w b) :
    Calls Try.prog 19 #[.pointer (some ⟨b, 0, none⟩)] w fun e w' => e = .returned (.pointer none) ∧ Bel w w' := by
  refine (pc_none _ w h.none).mono ?_
  rintro e w' ⟨rfl, rfl⟩
  exact ⟨rfl, Bel.refl _⟩

end Go.Proofs.Yteipadpifmjnmaa
