/- Slices of small numbers joined by append; bits that are made, in any order. -/
import Derived.Test.YtebcmfggmlapdaaDoorOpn
import Derived.Deep.DeepHandedRow
import Derived.Lib.LaidTab
namespace Go.Proofs.YtebcmfggmlapdaaDoor
open Go.ChangeShapes Go.WideShapes Go.ChangeAt Go.RowKit Go.Joins

/-- a slice of small numbers that may be appended -/
def Src (w : World) (v : Value) (n : Nat) (x : Nat → Nat) : Prop :=
  (v = .slice none 0 0 ∧ n = 0) ∨
  ∃ ad cap, v = .slice (some ad) n cap ∧ n ≤ cap ∧ cap ≤ 9223372036854775807 ∧ (∀ j, j < n → w.cell? (ad.add j) = some (.int .u16 (x j : Nat))) ∧ (1 ≤ n → ∃ b off, ad = ⟨b, off, none⟩)

theorem Src.u16s {w : World} {v : Value} {n : Nat} {x : Nat → Nat} (h : Src w v n x) : U16s w v n x := by
  rcases h with ⟨rfl, rfl⟩ | ⟨ad, cap, rfl, h1, h2, h3, h4⟩
  · exact Or.inl ⟨rfl, _, _, rfl⟩
  · by_cases c : n = 0
    · subst c; exact Or.inl ⟨rfl, _, _, rfl⟩
    · obtain ⟨b, off, rfl⟩ := h4 (by omega)
      refine Or.inr ⟨b, off, cap, rfl, by omega, h1, h2, fun j hj => ?_⟩
      have := h3 j hj
      have hadd : (⟨b, off, none⟩ : Addr).add j = ⟨b, off + j, none⟩ := by unfold Addr.add; split <;> simp_all
      rwa [hadd] at this

theorem Src.bel {w w' : World} {v : Value} {n : Nat} {x : Nat → Nat} (h : Src w v n x) (k : Bel w w') : Src w' v n x := by
  rcases h with h | ⟨ad, cap, h0, h1, h2, h3, h4⟩
  · exact Or.inl h
  · exact Or.inr ⟨ad, cap, h0, h1, h2, fun j hj => cell_bel k (h3 j hj), h4⟩

/-- small numbers, listed -/
def l16 (x : Nat → Nat) (n : Nat) : List Value := (List.range n).map fun j => .int .u16 (x j : Nat)
theorem l16_length (x : Nat → Nat) (n : Nat) : (l16 x n).length = n := by simp [l16]
theorem l16_at (x : Nat → Nat) {n j : Nat} (h : j < n) : (l16 x n)[j]? = some (.int .u16 (x j : Nat)) := by
  unfold l16; rw [List.getElem?_map, List.getElem?_range h]; rfl
/-- one behind the other -/
def join (x : Nat → Nat) (c : Nat) (y : Nat → Nat) (j : Nat) : Nat := if j < c then x j else y (j - c)
theorem l16_join (x y : Nat → Nat) (c d : Nat) : l16 x c ++ l16 y d = l16 (join x c y) (c + d) := by
  apply List.ext_getElem?
  intro j
  by_cases h1 : j < c
  · rw [List.getElem?_append_left (by rw [l16_length]; omega), l16_at _ h1, l16_at _ (by omega)]
    unfold join; rw [if_pos h1]
  · rw [List.getElem?_append_right (by rw [l16_length]; omega), l16_length]
    by_cases h2 : j < c + d
    · rw [l16_at _ h2, l16_at _ (by omega)]
      unfold join; rw [if_neg h1]
    · rw [List.getElem?_eq_none (by rw [l16_length]; omega), List.getElem?_eq_none (by rw [l16_length]; omega)]

theorem own_u16s {w : World} {B n : Nat} {v : Value} {x : Nat → Nat} (h : w.ownsRow B 41 1 v n (l16 x n)) : U16s w v n x := by
  rcases h.2 with ⟨rfl, rfl⟩ | ⟨G, cap, cur, rfl, _, hg, hn, hc, hs, ht⟩
  · exact Or.inl ⟨rfl, none, 0, rfl⟩
  · by_cases c : n = 0
    · subst c; exact Or.inl ⟨rfl, _, _, rfl⟩
    · refine Or.inr ⟨G, 0, cap, rfl, by omega, hn, by unfold maxLen at hc; omega, fun j hj => ?_⟩
      have := l16_at x hj
      rw [← ht, List.getElem?_take, if_pos (by omega)] at this
      rw [Nat.zero_add, cell_of_row _ _ j _ _ _ hg]
      simpa using this

theorem info41 : (Tryd.prog.info? 41).map (fun i => (i.zero, i.size, i.bytes)) = some (some (.int .u16 0), 1, 2) := by kernel_rfl

theorem wpList_app16 {ops : Array Oper} {rest : List Oper} {o : Oper} {a : Act} {Q : Exit → Act → World → Prop} {w : World} (hgd : o.guard = none) (s x : Operand)
    (ho : o.op = .call { callee := .builtin .append, args := #[s, x], argTypes := #[42, 42] })
    (base : Nat) (v : Value) (n : Nat) (xs : List Value) (hs : a.eval s = v) (hown : w.ownsRow base 41 1 v n xs)
    (u : Value) (m : Nat) (y : Nat → Nat) (hx : a.eval x = u) (hu : Src w u m y)
    (h63 : n + m ≤ maxLen) (hbytes : (n + m) * 2 ≤ 140737488355328) (hbase : base ≤ w.heap.size)
    (h : ∀ v' w', w'.ownsRow base 41 1 v' (n + m) (xs ++ l16 y m) → w.grownBy w' v.ownBlock → wpList Tryd.prog ops Q rest (a.put o.dst v') w') : wpList Tryd.prog ops Q (o :: rest) a w := by
  obtain ⟨i0, hi, hz0, hz1, hz2⟩ := info_parts info41
  rcases hu with ⟨rfl, rfl⟩ | ⟨ad, cap, rfl, h1, h2, h3, h4⟩
  · refine wpList_plain hgd fun K hK => ?_
    have hr := run_append_owned_none (P := Tryd.prog) w base 42 o.type 41 i0 1 Tryd.underlying42 hi v n xs hown
    unfold Oper.wp execOp
    simp only [ho, resolve, invoke, builtin, Sem.run_bind, Sem.run_pure, Result.andThen_ok, List.map_toArray, List.map_cons, List.map_nil, hs, hx, hr]
    refine hK _ _ (h v w ?_ ⟨rfl, rfl, rfl, Nat.le_refl _, fun _ _ _ => rfl⟩)
    have e : l16 y 0 = [] := rfl
    rw [e, List.append_nil]
    exact hown
  · refine wpList_append_own (P := Tryd.prog) w hgd s x 42 ho base 41 i0 (.int .u16 0) 1 2 Tryd.underlying42 hi hz0 hz1 hz2 rfl (by decide) v n xs hs hown ad m cap (l16 y m) hx ?_ ?_ ?_ h63 hbytes hbase ?_
    · rw [l16_length]; omega
    · intro j u hj
      have hjn : j < m := by
        have := (List.getElem?_eq_some_iff.1 hj).1
        rwa [l16_length] at this
      rw [l16_at _ hjn] at hj
      rw [← hj]
      exact h3 j hjn
    · intro u hu
      obtain ⟨j, _, rfl⟩ := List.mem_map.1 hu
      rfl
    · intro v' w' k1 k2 _
      exact h v' w' k1 k2

/-! The bits that are made. -/
theorem mk_iff (n : Nat) (x : Nat → Nat) : ∀ k i, mk n x k i = true ↔ i < n ∧ ∃ j, j < k ∧ x j % 301 = i
  | 0, i => by simp [mk]
  | k + 1, i => by
    show setF n (mk n x k) ((x k % 301 : Nat) : Int) true i = true ↔ _
    unfold setF
    by_cases c : x k % 301 < n
    · rw [show there n ((x k % 301 : Nat) : Int) = true from decide_eq_true ⟨by omega, by omega⟩, if_pos rfl, Int.toNat_natCast]
      unfold upd
      by_cases e : i = x k % 301
      · rw [if_pos e]
        exact ⟨fun _ => ⟨by omega, k, by omega, e.symm⟩, fun _ => rfl⟩
      · rw [if_neg e, mk_iff n x k i]
        refine ⟨fun ⟨h1, j, h2, h3⟩ => ⟨h1, j, by omega, h3⟩, fun ⟨h1, j, h2, h3⟩ => ⟨h1, j, ?_, h3⟩⟩
        by_cases d : j = k
        · subst d; omega
        · omega
    · rw [show there n ((x k % 301 : Nat) : Int) = false from decide_eq_false (by omega)]
      simp only [Bool.false_eq_true, if_false]
      rw [mk_iff n x k i]
      refine ⟨fun ⟨h1, j, h2, h3⟩ => ⟨h1, j, by omega, h3⟩, fun ⟨h1, j, h2, h3⟩ => ⟨h1, j, ?_, h3⟩⟩
      by_cases d : j = k
      · subst d; omega
      · omega

theorem mk_turn (n : Nat) (x y : Nat → Nat) (c d : Nat) : mk n (join x c y) (c + d) = mk n (join y d x) (d + c) := by
  have one : ∀ (x y : Nat → Nat) (c d i : Nat), (∃ j, j < c + d ∧ join x c y j % 301 = i) ↔ (∃ j, j < c ∧ x j % 301 = i) ∨ ∃ j, j < d ∧ y j % 301 = i := by
    intro x y c d i
    unfold join
    constructor
    · rintro ⟨j, h1, h2⟩
      by_cases h : j < c
      · rw [if_pos h] at h2; exact Or.inl ⟨j, h, h2⟩
      · rw [if_neg h] at h2; exact Or.inr ⟨j - c, by omega, h2⟩
    · rintro (⟨j, h1, h2⟩ | ⟨j, h1, h2⟩)
      · exact ⟨j, by omega, by rw [if_pos h1]; exact h2⟩
      · exact ⟨c + j, by omega, by rw [if_neg (by omega), show c + j - c = j by omega]; exact h2⟩
  funext i
  apply Bool.eq_iff_iff.2
  rw [mk_iff, mk_iff, one, one]
  constructor
  · rintro ⟨h, h1⟩; exact ⟨h, h1.symm⟩
  · rintro ⟨h, h1⟩; exact ⟨h, h1.symm⟩

/-! What the bound gives. -/
theorem bulk_one {H : Type} (d : DataW H) : 1 ≤ Rows.uptoBulk d := by
  cases d with
  | lit l => cases l <;> simp [Rows.uptoBulk]
  | nil => simp [Rows.uptoBulk]
  | ptr d => simp [Rows.uptoBulk]
  | slice elems spare => simp [Rows.uptoBulk]
  | agg parts => simp [Rows.uptoBulk]
  | iface t d => simp [Rows.uptoBulk]
  | map entries => simp [Rows.uptoBulk]
  | held h => simp [Rows.uptoBulk]
theorem bulk_length {H : Type} (l : List (DataW H)) : l.length ≤ Rows.uptoBulkAll l := by
  induction l with
  | nil => simp [Rows.uptoBulkAll]
  | cons x r ih => have := bulk_one x; simp only [Rows.uptoBulkAll, List.length_cons]; omega

theorem get_src {H : Type} {enc : TypeId × Value → H} {W : World} {r : Reach} {b0 : Nat} {v : Value} {d : DataW H} {p : List MemPlace} (hv : Value.okWide Tryd.prog W r b0 42 v) (h : DataW.Trod enc Tryd.prog W 0 (fun _ => true) true 42 v d p) :
    ∃ (n : Nat) (g : Nat → Nat), Src W v n g ∧ (∀ j, g j < 65536) ∧ n ≤ Rows.uptoBulk d := by
  obtain ⟨a0, l0, c0, rfl⟩ := okWide_slice Tryd.underlying42 hv
  obtain ⟨fuel, hfu⟩ := h
  rcases open_ints Tryd.underlying42 Tryd.underlying41 cells41 hfu with ⟨hcs, _⟩ | ⟨a, len, cap, zs, hcs, _, hl, hm, hz, hd, hcell, hwz⟩
  · simp [Value.cells] at hcs
    obtain ⟨rfl, rfl, rfl⟩ := hcs
    exact ⟨0, fun _ => 0, Or.inl ⟨rfl, rfl⟩, fun _ => (by omega : (0 : Nat) < 65536), by omega⟩
  · simp [Value.cells] at hcs
    obtain ⟨rfl, rfl, rfl⟩ := hcs
    simp only [if_true] at hz
    have bd := getD_b (zs := zs) (lo := 0) (hi := 65535) (by omega) (by omega) fun n hn => bounds_u16 (hwz n hn)
    refine ⟨l0, fun j => (zs.getD j 0).toNat, Or.inr ⟨a, c0, rfl, hl, by unfold maxLen at hm; omega, fun j hj => ?_, fun h1 => ?_⟩, fun j => (by have := bd j; omega : (zs.getD j 0).toNat < 65536), ?_⟩
    · rw [hcell j (by omega)]
      have := bd j
      show _ = some (Value.int .u16 (((zs.getD j 0).toNat : Nat) : Int))
      rw [Int.toNat_of_nonneg this.1]
    · obtain ⟨b, off, rfl, _⟩ := ints_at hcell (by omega)
      exact ⟨b, off, rfl⟩
    · obtain ⟨rfl, _⟩ := Prod.mk.inj hd
      have h1 := bulk_length (lits (H := H) .u16 (zs.take l0))
      have h2 : (lits (H := H) .u16 (zs.take l0)).length = l0 := by simp [lits]; omega
      simp only [Rows.uptoBulk]
      omega

end Go.Proofs.YtebcmfggmlapdaaDoor
