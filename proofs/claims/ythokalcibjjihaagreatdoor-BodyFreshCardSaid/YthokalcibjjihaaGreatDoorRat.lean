/- Memory of one's own: rows that may be written; rows that append makes out of nil. -/
import Derived.Test.YthokalcibjjihaaGreatDoorCk
import Derived.Laws.OwnMore
import Derived.Deep.AppendLies
import Derived.Deep.Upon
import Derived.Deep.Slices
namespace Go.Proofs.YthokalcibjjihaaGreatDoor
open Go.ChangeShapes Go.WideShapes Go.ChangeAt Go.RowKit Go.Deep

/-- a block of cells that may be written, whole -/
def RowAt (w : World) (g m : Nat) (t : TypeId) : Prop := ∃ cur, w.heap[g]? = some (.cells cur t (0, 0)) ∧ m ≤ cur.size

theorem heap_lt {w : World} {g : Nat} {o : Obj} (h : w.heap[g]? = some o) : g < w.heap.size := by
  rcases Nat.lt_or_ge g w.heap.size with c | c
  · exact c
  · rw [Array.getElem?_eq_none c] at h; cases h
theorem heap_bel {w w' : World} (g : Bel w w') {k : Nat} {o : Obj} (h : w.heap[k]? = some o) : w'.heap[k]? = some o := by
  rw [g.block _ (heap_lt h)]; exact h
theorem RowAt.bel {w w' : World} {g m : Nat} {t : TypeId} (h : RowAt w g m t) (b : Bel w w') : RowAt w' g m t := by
  obtain ⟨cur, h1, h2⟩ := h
  exact ⟨cur, heap_bel b h1, h2⟩
theorem RowAt.free {w : World} {g m : Nat} {t : TypeId} (h : RowAt w g m t) (j : Nat) : w.frozen? ⟨g, j, none⟩ = false := by
  obtain ⟨cur, h1, _⟩ := h
  exact frozen_of_row w g j cur t h1
theorem RowAt.there {w : World} {g m : Nat} {t : TypeId} (h : RowAt w g m t) {j : Nat} (hj : j < m) : ∃ v, w.cell? ⟨g, j, none⟩ = some v := by
  obtain ⟨cur, h1, h2⟩ := h
  exact ⟨cur[j], by rw [cell_of_row w g j cur t (0, 0) h1]; exact Array.getElem?_eq_getElem (by omega)⟩
/-- a store -/
theorem RowAt.set {w : World} {g m : Nat} {t : TypeId} (h : RowAt w g m t) {j : Nat} (hj : j < m) (u : Value) :
    RowAt (w.setCell ⟨g, j, none⟩ u) g m t ∧ (w.setCell ⟨g, j, none⟩ u).cell? ⟨g, j, none⟩ = some u ∧ (∀ i, i ≠ j → (w.setCell ⟨g, j, none⟩ u).cell? ⟨g, i, none⟩ = w.cell? ⟨g, i, none⟩) := by
  obtain ⟨cur, h1, h2⟩ := h
  have h3 := heap_setCell_same w g j cur t u h1
  refine ⟨⟨_, h3, by simpa using h2⟩, ?_, fun i hi => ?_⟩
  · rw [cell_of_row _ g j _ t (0, 0) h3, Array.getElem?_setIfInBounds, if_pos rfl, if_pos (by omega)]
  · rw [cell_of_row _ g i _ t (0, 0) h3, cell_of_row w g i cur t (0, 0) h1, Array.getElem?_setIfInBounds, if_neg (by omega)]
theorem set_heap {w : World} {g j k : Nat} (h : k ≠ g) (u : Value) : (w.setCell ⟨g, j, none⟩ u).heap[k]? = w.heap[k]? := heap_setCell_other w _ k u h
theorem set_bel {w0 w : World} {g : Nat} (h : Bel w0 w) (hg : w0.heap.size ≤ g) (j : Nat) (u : Value) : Bel w0 (w.setCell ⟨g, j, none⟩ u) :=
  Below.trans h (Below.setCell (Below.refl _ _) (show w0.heap.size ≤ (⟨g, j, none⟩ : Addr).block from hg) _)

/-- four stores -/
theorem RowAt.set4 {w : World} {g m : Nat} {t : TypeId} (h : RowAt w g m t) {o : Nat} (ho : o + 4 ≤ m) (a b c d : Value) :
    ∃ W, (((w.setCell ⟨g, o, none⟩ a).setCell ⟨g, o + 1, none⟩ b).setCell ⟨g, o + 2, none⟩ c).setCell ⟨g, o + 3, none⟩ d = W ∧ RowAt W g m t ∧
      (W.cell? ⟨g, o, none⟩ = some a ∧ W.cell? ⟨g, o + 1, none⟩ = some b ∧ W.cell? ⟨g, o + 2, none⟩ = some c ∧ W.cell? ⟨g, o + 3, none⟩ = some d) ∧
      (∀ i, (i < o ∨ o + 4 ≤ i) → W.cell? ⟨g, i, none⟩ = w.cell? ⟨g, i, none⟩) ∧ (∀ k, k ≠ g → W.heap[k]? = w.heap[k]?) ∧ (∀ w0, Bel w0 w → w0.heap.size ≤ g → Bel w0 W) := by
  obtain ⟨r1, s1, n1⟩ := h.set (j := o) (by omega) a
  obtain ⟨r2, s2, n2⟩ := r1.set (j := o + 1) (by omega) b
  obtain ⟨r3, s3, n3⟩ := r2.set (j := o + 2) (by omega) c
  obtain ⟨r4, s4, n4⟩ := r3.set (j := o + 3) (by omega) d
  refine ⟨_, rfl, r4, ⟨?_, ?_, ?_, s4⟩, fun i hi => ?_, fun k hk => ?_, fun w0 hw hg => set_bel (set_bel (set_bel (set_bel hw hg _ _) hg _ _) hg _ _) hg _ _⟩
  · rw [n4 _ (by omega), n3 _ (by omega), n2 _ (by omega)]; exact s1
  · rw [n4 _ (by omega), n3 _ (by omega)]; exact s2
  · rw [n4 _ (by omega)]; exact s3
  · rw [n4 _ (by omega), n3 _ (by omega), n2 _ (by omega), n1 _ (by omega)]
  · rw [set_heap hk, set_heap hk, set_heap hk, set_heap hk]

theorem cell_heap {w w' : World} {k j : Nat} (h : w'.heap[k]? = w.heap[k]?) : w'.cell? ⟨k, j, none⟩ = w.cell? ⟨k, j, none⟩ := World.cell?_of_block h
theorem RowAt.heap {w w' : World} {k m : Nat} {t : TypeId} (r : RowAt w k m t) (h : w'.heap[k]? = w.heap[k]?) : RowAt w' k m t := by
  obtain ⟨cur, h1, h2⟩ := r
  exact ⟨cur, h.trans h1, h2⟩

/-- what Own makes -/
structure Owned (w w' : World) (c : Cf) (g1 g2 : Nat) : Prop where
  bel : Bel w w'
  b1 : w.heap.size ≤ g1
  b2 : w.heap.size ≤ g2
  ne : g1 ≠ g2
  r1 : RowAt w' g1 c.n 3
  r2 : RowAt w' g2 (c.m * 4) 93
  n : ∀ j, j < c.n → w'.cell? ⟨g1, j, none⟩ = some (.int .i64 (c.F j))
  t : ∀ j, j < c.m → Ten w' g2 (j * 4) (c.Q j) (c.Tr j) (c.Cp j) (c.As j)

theorem info_ten : (Tryz.prog.info? 93).map (fun i => (i.zero, i.size, i.bytes)) = some (some (.agg #[.int .i64 0, .int .i64 0, .int .i64 0, .int .i64 0]), 4, 32) := by kernel_rfl
theorem info_parts {o : Option TypeInfo} {z : Option Value} {s b : Nat} (h : o.map (fun i => (i.zero, i.size, i.bytes)) = some (z, s, b)) : ∃ i, o = some i ∧ i.zero = z ∧ i.size = s ∧ i.bytes = b := by
  cases o with
  | none => cases h
  | some i => simp at h; exact ⟨i, rfl, h.1, h.2.1, h.2.2⟩

/-- the cells of a row of tenants -/
def tenV (c : Cf) (j : Nat) : Value := .int .i64 (if j % 4 = 0 then c.Q (j / 4) else if j % 4 = 1 then c.Tr (j / 4) else if j % 4 = 2 then c.Cp (j / 4) else c.As (j / 4))
def tenL (c : Cf) : List Value := (List.range (c.m * 4)).map (tenV c)
theorem tenL_len (c : Cf) : (tenL c).length = c.m * 4 := by unfold tenL; simp
theorem tenL_get (c : Cf) {j : Nat} (h : j < c.m * 4) : (tenL c)[j]? = some (tenV c j) := by unfold tenL; rw [List.getElem?_map, List.getElem?_range h]; rfl
theorem tenL_one (c : Cf) : ∀ u ∈ tenL c, u.oneCell' = true := by
  intro u hu
  unfold tenL at hu
  obtain ⟨j, _, rfl⟩ := List.mem_map.1 hu
  rfl
theorem tenV_at (c : Cf) (i : Nat) : tenV c (i * 4) = .int .i64 (c.Q i) ∧ tenV c (i * 4 + 1) = .int .i64 (c.Tr i) ∧ tenV c (i * 4 + 2) = .int .i64 (c.Cp i) ∧ tenV c (i * 4 + 3) = .int .i64 (c.As i) := by
  unfold tenV
  refine ⟨?_, ?_, ?_, ?_⟩
  · rw [show i * 4 % 4 = 0 by omega, show i * 4 / 4 = i by omega]; rfl
  · rw [show (i * 4 + 1) % 4 = 1 by omega, show (i * 4 + 1) / 4 = i by omega]; rfl
  · rw [show (i * 4 + 2) % 4 = 2 by omega, show (i * 4 + 2) / 4 = i by omega]; rfl
  · rw [show (i * 4 + 3) % 4 = 3 by omega, show (i * 4 + 3) / 4 = i by omega]; rfl
theorem tenL_news {c : Cf} {w : World} {b off : Nat} (h : ∀ j, j < c.m → Ten w b (off + j * 4) (c.Q j) (c.Tr j) (c.Cp j) (c.As j)) : ∀ j u, (tenL c)[j]? = some u → w.cell? ((⟨b, off, none⟩ : Addr).add j) = some u := by
  intro j u hu
  by_cases x : j < c.m * 4
  · rw [tenL_get c x] at hu
    cases hu
    rw [add_plain]
    obtain ⟨h0, h1, h2, h3⟩ := h (j / 4) (by omega)
    obtain ⟨e0, e1, e2, e3⟩ := tenV_at c (j / 4)
    have : j % 4 = 0 ∨ j % 4 = 1 ∨ j % 4 = 2 ∨ j % 4 = 3 := by omega
    rcases this with m | m | m | m
    · have e : j = j / 4 * 4 := by omega
      generalize j / 4 = i at *
      subst e; rw [e0]; exact h0
    · have e : j = j / 4 * 4 + 1 := by omega
      generalize j / 4 = i at *
      subst e; rw [e1, ← Nat.add_assoc]; exact h1
    · have e : j = j / 4 * 4 + 2 := by omega
      generalize j / 4 = i at *
      subst e; rw [e2, ← Nat.add_assoc]; exact h2
    · have e : j = j / 4 * 4 + 3 := by omega
      generalize j / 4 = i at *
      subst e; rw [e3, ← Nat.add_assoc]; exact h3
  · rw [List.getElem?_eq_none (by rw [tenL_len]; omega)] at hu
    cases hu


theorem own_row {w : World} {B g cap : Nat} {c : Cf} (h : w.ownsRow B 93 4 (.slice (some ⟨g, 0, none⟩) (0 + c.m) cap) (0 + c.m) ([] ++ tenL c)) :
    RowAt w g (c.m * 4) 93 ∧ (∀ j, j < c.m → Ten w g (j * 4) (c.Q j) (c.Tr j) (c.Cp j) (c.As j)) ∧ B ≤ g ∧ c.m ≤ cap ∧ cap ≤ 9223372036854775807 := by
  rw [Nat.zero_add, List.nil_append] at h
  have at' := fun j hj => h.cellAt j hj
  rcases h.2 with ⟨e, _⟩ | ⟨g', cap', cur, e, hB, hg, hc, hm, hs, _⟩
  · cases e
  · injection e with e1 e2 e3
    injection e1 with e1
    injection e1 with e1
    subst e1; subst e3
    refine ⟨⟨cur, hg, by rw [hs]; exact Nat.mul_le_mul_right 4 hc⟩, fun j hj => ?_, hB, hc, by unfold maxLen at hm; omega⟩
    obtain ⟨v0, v1, v2, v3⟩ := tenV_at c j
    refine ⟨?_, ?_, ?_, ?_⟩
    · rw [at' _ (by omega), tenL_get c (by omega), v0]
    · rw [at' _ (by omega), tenL_get c (by omega), v1]
    · rw [at' _ (by omega), tenL_get c (by omega), v2]
    · rw [at' _ (by omega), tenL_get c (by omega), v3]

theorem info_num : (Tryz.prog.info? 3).map (fun i => (i.zero, i.size, i.bytes)) = some (some (.int .i64 0), 1, 8) := by kernel_rfl

/-- numbers, listed -/
def numL (F : Nat → Int) (n : Nat) : List Value := (List.range n).map fun j => .int .i64 (F j)
theorem numL_len (F : Nat → Int) (n : Nat) : (numL F n).length = n := by unfold numL; simp
theorem numL_get (F : Nat → Int) {n j : Nat} (h : j < n) : (numL F n)[j]? = some (.int .i64 (F j)) := by unfold numL; rw [List.getElem?_map, List.getElem?_range h]; rfl
theorem numL_one (F : Nat → Int) (n : Nat) : ∀ u ∈ numL F n, u.oneCell' = true := by
  intro u hu
  unfold numL at hu
  obtain ⟨j, _, rfl⟩ := List.mem_map.1 hu
  rfl
theorem numL_news {F : Nat → Int} {n : Nat} {w : World} {b off : Nat} (h : ∀ j, j < n → w.cell? ⟨b, off + j, none⟩ = some (.int .i64 (F j))) : ∀ j u, (numL F n)[j]? = some u → w.cell? ((⟨b, off, none⟩ : Addr).add j) = some u := by
  intro j u hu
  by_cases x : j < n
  · rw [numL_get F x] at hu
    cases hu
    rw [add_plain]
    exact h j x
  · rw [List.getElem?_eq_none (by rw [numL_len]; omega)] at hu
    cases hu

/-- numbers behind nil -/
structure MadeN (w w' : World) (v : Value) (n : Nat) (F : Nat → Int) : Prop where
  grown : w.grownBy w' none
  is : (n = 0 ∧ v = .slice none 0 0) ∨ ∃ cap, v = .slice (some ⟨w.heap.size, 0, none⟩) n cap ∧ 1 ≤ n ∧ n ≤ cap ∧ cap ≤ 9223372036854775807 ∧ w.heap.size < w'.heap.size ∧ RowAt w' w.heap.size n 3 ∧ ∀ j, j < n → w'.cell? ⟨w.heap.size, j, none⟩ = some (.int .i64 (F j))
/-- tenants behind nil -/
structure MadeT (w w' : World) (v : Value) (c : Cf) : Prop where
  grown : w.grownBy w' none
  is : (c.m = 0 ∧ v = .slice none 0 0) ∨ ∃ cap, v = .slice (some ⟨w.heap.size, 0, none⟩) c.m cap ∧ 1 ≤ c.m ∧ c.m ≤ cap ∧ cap ≤ 9223372036854775807 ∧ w.heap.size < w'.heap.size ∧ RowAt w' w.heap.size (c.m * 4) 93 ∧ ∀ j, j < c.m → Ten w' w.heap.size (j * 4) (c.Q j) (c.Tr j) (c.Cp j) (c.As j)

theorem grown_refl (w : World) : w.grownBy w none := ⟨rfl, rfl, rfl, Nat.le_refl _, fun _ _ _ => rfl⟩

theorem own_num {w : World} {B g n cap : Nat} {F : Nat → Int} (h : w.ownsRow B 3 1 (.slice (some ⟨g, 0, none⟩) (0 + n) cap) (0 + n) ([] ++ numL F n)) :
    RowAt w g n 3 ∧ (∀ j, j < n → w.cell? ⟨g, j, none⟩ = some (.int .i64 (F j))) ∧ B ≤ g ∧ n ≤ cap ∧ cap ≤ 9223372036854775807 := by
  rw [Nat.zero_add, List.nil_append] at h
  have at' := fun j hj => h.cellAt j hj
  rcases h.2 with ⟨e, _⟩ | ⟨g', cap', cur, e, hB, hg, hc, hm, hs, _⟩
  · cases e
  · injection e with e1 e2 e3
    injection e1 with e1
    injection e1 with e1
    subst e1; subst e3
    refine ⟨⟨cur, hg, by rw [hs]; omega⟩, fun j hj => ?_, hB, hc, by unfold maxLen at hm; omega⟩
    rw [at' _ (by omega), numL_get F hj]

/-- nothing behind nil -/
theorem wpList_app0 {P : Program} {ops : Array Oper} {rest : List Oper} {o : Oper} {a : Act} {Q : Exit → Act → World → Prop} {w : World} (hgd : o.guard = none) (s x : Operand) (t e : TypeId)
    (ho : o.op = .call { callee := .builtin .append, args := #[s, x], argTypes := #[t, t] }) (i : TypeInfo) (ht : P.underlying t = some (.slice e)) (hi : P.info? e = some i)
    (hs : a.eval s = .slice none 0 0) (p : Option Addr) (cap : Nat) (hx : a.eval x = .slice p 0 cap) (h : wpList P ops Q rest (a.put o.dst (.slice none 0 0)) w) : wpList P ops Q (o :: rest) a w := by
  refine wpList_plain hgd fun K hK => ?_
  have src : Go.Src P i.size t (.slice p 0 cap) 0 [] w := by
    cases p with
    | none => exact Go.Src.ofNil w ht cap
    | some ad => exact Go.Src.ofSlice w ht ad 0 cap [] (by simp) (fun j u hu => by simp at hu) (fun _ h => by cases h)
  have hr := run_append_nothing (P := P) w t t o.type e i ht hi none 0 0 (Nat.le_refl _) _ src
  unfold Oper.wp execOp
  simp only [ho, resolve, invoke, builtin, Sem.run_bind, Sem.run_pure, Result.andThen_ok, List.map_toArray, List.map_cons, List.map_nil, hs, hx, hr]
  exact hK _ _ h

theorem wpList_appN {ops : Array Oper} {rest : List Oper} {o : Oper} {a : Act} {Q : Exit → Act → World → Prop} {w : World} (hgd : o.guard = none) (s x : Operand)
    (ho : o.op = .call { callee := .builtin .append, args := #[s, x], argTypes := #[22, 22] })
    (hs : a.eval s = .slice none 0 0) (u : Value) (n : Nat) (F : Nat → Int) (hx : a.eval x = u) (hu : Nums w u n F) (hn : n ≤ 50)
    (h : ∀ v' w', MadeN w w' v' n F → wpList Tryz.prog ops Q rest (a.put o.dst v') w') : wpList Tryz.prog ops Q (o :: rest) a w := by
  obtain ⟨i0, hi, hz0, hz1, hz2⟩ := info_parts info_num
  rcases hu with ⟨rfl, p, cap, rfl⟩ | ⟨b, off, cap, rfl, h1, h2, h3, h4⟩
  · exact wpList_app0 hgd s x 22 3 ho i0 Tryz.underlying22 hi hs p cap hx (h _ _ ⟨grown_refl w, Or.inl ⟨rfl, rfl⟩⟩)
  · refine wpList_append_lies (P := Tryz.prog) w hgd s x 22 ho 0 3 i0 (.int .i64 0) 1 8 Tryz.underlying22 hi hz0 hz1 hz2 rfl (by decide) _ 0 [] hs (World.ownsRow_nil w 0 _ _) ⟨b, off, none⟩ n cap (numL F n) hx (by rw [numL_len]; omega) (numL_news h4) (numL_one F n) (by omega) (by unfold maxLen; omega) (by omega) (Nat.zero_le _) w.heap.size rfl ?_
    intro g cap' w' hown hgrow hat hlt
    have eg : g = w.heap.size := by
      rcases hat with e | e
      · cases e
      · exact e
    subst eg
    obtain ⟨r, cs, _, k1, k2⟩ := own_num hown
    rw [Nat.zero_add]
    exact h _ _ ⟨hgrow, Or.inr ⟨cap', rfl, h1, k1, k2, hlt, r, cs⟩⟩

theorem wpList_appT {ops : Array Oper} {rest : List Oper} {o : Oper} {a : Act} {Q : Exit → Act → World → Prop} {w : World} (hgd : o.guard = none) (s x : Operand)
    (ho : o.op = .call { callee := .builtin .append, args := #[s, x], argTypes := #[23, 23] })
    (hs : a.eval s = .slice none 0 0) (u : Value) (c : Cf) (hx : a.eval x = u) (hu : Tens w u c) (hn : c.m ≤ 50)
    (h : ∀ v' w', MadeT w w' v' c → wpList Tryz.prog ops Q rest (a.put o.dst v') w') : wpList Tryz.prog ops Q (o :: rest) a w := by
  obtain ⟨i0, hi, hz0, hz1, hz2⟩ := info_parts info_ten
  rcases hu with ⟨e, p, cap, rfl⟩ | ⟨b, off, cap, rfl, h1, h2, h3, h4⟩
  · exact wpList_app0 hgd s x 23 93 ho i0 Tryz.underlying23 hi hs p cap hx (h _ _ ⟨grown_refl w, Or.inl ⟨e, rfl⟩⟩)
  · refine wpList_append_lies (P := Tryz.prog) w hgd s x 23 ho 0 93 i0 _ 4 32 Tryz.underlying23 hi hz0 hz1 hz2 rfl (by decide) _ 0 [] hs (World.ownsRow_nil w 0 _ _) ⟨b, off, none⟩ c.m cap (tenL c) hx (tenL_len c) (tenL_news h4) (tenL_one c) (by omega) (by unfold maxLen; omega) (by omega) (Nat.zero_le _) w.heap.size rfl ?_
    intro g cap' w' hown hgrow hat hlt
    have eg : g = w.heap.size := by
      rcases hat with e | e
      · cases e
      · exact e
    subst eg
    obtain ⟨r, cs, _, k1, k2⟩ := own_row hown
    rw [Nat.zero_add]
    exact h _ _ ⟨hgrow, Or.inr ⟨cap', rfl, h1, k1, k2, hlt, r, cs⟩⟩

end Go.Proofs.YthokalcibjjihaaGreatDoor
