/- Rows of words that the call owns; append of one row, of words; laws for the walk. -/
import Derived.Test.YteipadpifmjnmaaWd
namespace Go.Proofs.Yteipadpifmjnmaa
open Go.ChangeShapes Go.WideShapes Go.ChangeAt Go.RowKit Go.Deep

theorem size_alloc1 (w : World) (o : Obj) : (w.alloc o).heap.size = w.heap.size + 1 := by show (w.heap.push o).size = _; simp
theorem info_u64 : (Try.prog.info? 40).map (fun i => (i.zero, i.size, i.bytes)) = some (some (.int .u64 0), 1, 8) := by kernel_rfl
theorem info_ws : (Try.prog.info? 45).map (fun i => (i.zero, i.size, i.bytes)) = some (some (.slice none 0 0), 1, 24) := by kernel_rfl
/-- words as values -/
def uL (l : List Nat) : List Value := l.map fun u => .int .u64 (u : Nat)
theorem uL_len (l : List Nat) : (uL l).length = l.length := List.length_map _
theorem uL_get {l : List Nat} {j u : Nat} (h : l[j]? = some u) : (uL l)[j]? = some (.int .u64 (u : Nat)) := by unfold uL; rw [List.getElem?_map, h]; rfl
theorem uL_one (l : List Nat) : ∀ u ∈ uL l, u.oneCell' = true := by
  intro u hu
  unfold uL at hu
  obtain ⟨j, _, rfl⟩ := List.mem_map.1 hu
  rfl
theorem uL_app (a b : List Nat) : uL a ++ uL b = uL (a ++ b) := (List.map_append ..).symm
theorem uL_set (l : List Nat) (a u : Nat) : (uL l).set a (.int .u64 (u : Nat)) = uL (l.set a u) := by unfold uL; rw [List.map_set]

/-- words that the call owns -/
def Own64 (B : Nat) (w : World) (v : Value) (l : List Nat) : Prop := w.ownsRow B 40 1 v l.length (uL l)
theorem Own64.ws {X : Nat → Prop} {B : Nat} {w : World} {v : Value} {l : List Nat} (h : Own64 B w v l) (hx : ∀ k, B ≤ k → v.ownBlock = some k → ¬ X k) : Ws X w v l := by
  have h' := h
  rcases h.2 with ⟨rfl, h0⟩ | ⟨g, cap, cur, rfl, hb, hg, hn, hm, hs, _⟩
  · exact Or.inl ⟨List.length_eq_zero_iff.1 h0, _, _, rfl⟩
  · by_cases c : l.length = 0
    · exact Or.inl ⟨List.length_eq_zero_iff.1 c, _, _, by rw [c]⟩
    · refine Or.inr ⟨g, 0, cap, rfl, by omega, hn, by unfold maxLen at hm; omega, hx g hb rfl, fun j u hj => ?_⟩
      have hj' := (List.getElem?_eq_some_iff.1 hj).1
      have e := World.ownsRow.cellAt h' j (by omega)
      rw [Nat.zero_add, e]
      exact uL_get hj

/-- where words are read -/
theorem Ws.news {X : Nat → Prop} {w : World} {b off cap : Nat} {l : List Nat} (h : ∀ (j u : Nat), l[j]? = some u → w.cell? ⟨b, off + j, none⟩ = some (.int .u64 (u : Nat))) : ∀ j u, (uL l)[j]? = some u → w.cell? ((⟨b, off, none⟩ : Addr).add j) = some u := by
  intro j u hu
  rw [add_plain]
  unfold uL at hu
  rw [List.getElem?_map] at hu
  cases e : l[j]? with
  | none => rw [e] at hu; cases hu
  | some x => rw [e] at hu; cases hu; exact h j x e

/-- words appended to words that the call owns -/
theorem wpList_appW {X : Nat → Prop} {ops : Array Oper} {rest : List Oper} {o : Oper} {a : Act} {Q : Exit → Act → World → Prop} {w : World} (hgd : o.guard = none) (s x : Operand)
    (ho : o.op = .call { callee := .builtin .append, args := #[s, x], argTypes := #[45, 45] })
    (B : Nat) (v : Value) (l : List Nat) (hs : a.eval s = v) (hown : Own64 B w v l) (u : Value) (k : List Nat) (hx : a.eval x = u) (hu : Ws X w u k) (hk : 1 ≤ k.length) (hn : l.length + k.length ≤ 1000000) (hB : B ≤ w.heap.size)
    (h : ∀ g n cap w', n = l.length + k.length → Own64 B w' (.slice (some ⟨g, 0, none⟩) n cap) (l ++ k) → w.grownBy w' v.ownBlock → (v.ownBlock = some g ∨ g = w.heap.size) → wpList Try.prog ops Q rest (a.put o.dst (.slice (some ⟨g, 0, none⟩) n cap)) w') :
    wpList Try.prog ops Q (o :: rest) a w := by
  obtain ⟨i0, hi, hz0, hz1, hz2⟩ := info_parts info_u64
  rcases hu with ⟨rfl, _⟩ | ⟨b, off, cap, rfl, h1, h2, h3, h4, h5⟩
  · simp at hk
  · refine wpList_append_lies (P := Try.prog) w hgd s x 45 ho B 40 i0 (.int .u64 0) 1 8 Try.underlying45 hi hz0 hz1 hz2 rfl (by decide) v l.length (uL l) hs hown ⟨b, off, none⟩ k.length cap (uL k) hx (by rw [uL_len]; omega) (Ws.news (X := X) (cap := cap) h5) (uL_one k) (by omega) (by unfold maxLen; omega) (by omega) hB w.heap.size rfl ?_
    intro g cap' w' hown' hgrow hat hlt
    have el : (l ++ k).length = l.length + k.length := List.length_append
    rw [uL_app] at hown'
    refine h g _ cap' w' rfl ?_ hgrow hat
    unfold Own64
    rw [el]
    exact hown'

/-- rows that the call owns -/
def Orow (Y : Nat → Prop) (B : Nat) (w : World) (v : Value) (R : List (List Nat)) : Prop :=
  ∃ xs : List Value, w.ownsRow B 45 1 v R.length xs ∧ ∀ (j : Nat) (l : List Nat), R[j]? = some l → ∃ lv, xs[j]? = some lv ∧ Ws (fun b => Y b ∨ v.ownBlock = some b) w lv l

theorem Orow.nil (Y : Nat → Prop) (B : Nat) (w : World) : Orow Y B w (.slice none 0 0) [] := ⟨[], World.ownsRow_nil w B _ _, fun j l h => by simp at h⟩
theorem Orow.lt {Y : Nat → Prop} {B : Nat} {w : World} {v : Value} {R : List (List Nat)} (h : Orow Y B w v R) : ∀ k, v.ownBlock = some k → B ≤ k ∧ k < w.heap.size := by
  obtain ⟨xs, h, _⟩ := h
  exact h.lt
theorem Orow.shape {Y : Nat → Prop} {B : Nat} {w : World} {v : Value} {R : List (List Nat)} (h : Orow Y B w v R) : ∃ p cap, v = .slice p R.length cap := by
  obtain ⟨xs, h, _⟩ := h
  rcases h.2 with ⟨rfl, h0⟩ | ⟨g, cap, cur, rfl, _⟩
  · exact ⟨_, _, by rw [h0]⟩
  · exact ⟨_, _, rfl⟩
theorem Orow.rs {X Y : Nat → Prop} {B : Nat} {w : World} {v : Value} {R : List (List Nat)} (h : Orow Y B w v R) (hx : ∀ k, B ≤ k → ¬ X k) (hs : ∀ k, X k → Y k) : Rs X w v R := by
  obtain ⟨xs, h, hr⟩ := h
  have h' := h
  rcases h.2 with ⟨rfl, h0⟩ | ⟨g, cap, cur, rfl, hb, hg, hn, hm, hsz, _⟩
  · exact Or.inl ⟨List.length_eq_zero_iff.1 h0, _, _, rfl⟩
  · by_cases c : R.length = 0
    · exact Or.inl ⟨List.length_eq_zero_iff.1 c, _, _, by rw [c]⟩
    · refine Or.inr ⟨g, 0, cap, rfl, by omega, hn, by unfold maxLen at hm; omega, hx g hb, fun j l hj => ?_⟩
      have hj' := (List.getElem?_eq_some_iff.1 hj).1
      obtain ⟨lv, e, hw⟩ := hr j l hj
      refine ⟨lv, ?_, hw.less fun k hk => Or.inl (hs k hk)⟩
      rw [Nat.zero_add, World.ownsRow.cellAt h' j (by omega), e]
/-- what the row's owner does elsewhere -/
theorem Orow.exc {Y Z : Nat → Prop} {B : Nat} {w w' : World} {v : Value} {R : List (List Nat)} (h : Orow Y B w v R) (g : Exc Z w w') (hz : ∀ k, Z k → Y k) (hB : ∀ k, Z k → k < B) : Orow Y B w' v R := by
  obtain ⟨xs, h, hr⟩ := h
  refine ⟨xs, ⟨h.1, ?_⟩, fun j l hj => ?_⟩
  · rcases h.2 with hn | ⟨g', cap, cur, rfl, hb, hg, rest⟩
    · exact Or.inl hn
    · exact Or.inr ⟨g', cap, cur, rfl, hb, (g.block g' (Array.getElem?_eq_some_iff.1 hg).1 fun x => by have := hB g' x; omega).trans hg, rest⟩
  · obtain ⟨lv, e, hw⟩ := hr j l hj
    rcases hw with hw | ⟨b, off, cap, h1, h2, h3, h4, h5, h6⟩
    · exact ⟨lv, e, Or.inl hw⟩
    · exact ⟨lv, e, Or.inr ⟨b, off, cap, h1, h2, h3, h4, h5, fun j u hj => cell_exc g (h6 j u hj) fun x => h5 (Or.inl (hz _ x))⟩⟩
theorem Orow.bel {Y : Nat → Prop} {B : Nat} {w w' : World} {v : Value} {R : List (List Nat)} (h : Orow Y B w v R) (g : Bel w w') : Orow Y B w' v R :=
  h.exc (Z := fun _ => False) g.exc (fun _ x => x.elim) (fun _ x => x.elim)

/-- one row more -/
theorem Orow.push {Y : Nat → Prop} {B : Nat} {w w' : World} {v v' lv : Value} {xs : List Value} {R : List (List Nat)} {l : List Nat} {g : Nat} (hr : ∀ (j : Nat) (l : List Nat), R[j]? = some l → ∃ lv, xs[j]? = some lv ∧ Ws (fun b => Y b ∨ v.ownBlock = some b) w lv l)
    (hlen : xs.length = R.length) (hl : Ws (fun b => Y b ∨ v.ownBlock = some b) w lv l) (hgrow : w.grownBy w' v.ownBlock) (hv : v'.ownBlock = some g) (hat : v.ownBlock = some g ∨ g = w.heap.size)
    (hown : w'.ownsRow B 45 1 v' (R.length + 1) (xs ++ [lv])) : Orow Y B w' v' (R ++ [l]) := by
  have mv : ∀ (u : Value) (k : List Nat), Ws (fun b => Y b ∨ v.ownBlock = some b) w u k → Ws (fun b => Y b ∨ v'.ownBlock = some b) w' u k := by
    rintro u k (hw | ⟨b, off, cap, h1, h2, h3, h4, h5, h6⟩)
    · exact Or.inl hw
    · refine Or.inr ⟨b, off, cap, h1, h2, h3, h4, ?_, fun j x hj => hgrow.cell (h6 j x hj) fun e => h5 (Or.inr e.symm)⟩
      have hb : b < w.heap.size := by
        obtain ⟨x, hx⟩ : ∃ x, k[0]? = some x := ⟨k[0], List.getElem?_eq_getElem (by omega)⟩
        exact (cell_block (h6 0 x hx)).1
      rintro (x | x)
      · exact h5 (Or.inl x)
      · rw [hv] at x
        injection x with x
        rcases hat with e | e
        · exact h5 (Or.inr (by rw [e, x]))
        · omega
  refine ⟨xs ++ [lv], by rw [List.length_append]; exact hown, fun j k hj => ?_⟩
  by_cases c : j < R.length
  · rw [List.getElem?_append_left c] at hj
    obtain ⟨u, e, hw⟩ := hr j k hj
    exact ⟨u, by rw [List.getElem?_append_left (by omega)]; exact e, mv u k hw⟩
  · have hj2 := (List.getElem?_eq_some_iff.1 hj).1
    rw [List.length_append] at hj2
    simp at hj2
    have ej : j = R.length := by omega
    subst ej
    simp at hj
    subst hj
    exact ⟨lv, by rw [← hlen]; simp, mv lv _ hl⟩

section
variable {Y : Nat → Prop} {ops : Array Oper} {rest : List Oper} {o : Oper} {a : Act} {Q : Exit → Act → World → Prop} {w : World}
/-- the made slice of one row, appended: at the operation -/
theorem wp_pushG {K : Act → World → Prop} (s x : Operand)
    (ho : o.op = .call { callee := .builtin .append, args := #[s, x], argTypes := #[34, 34] })
    (B : Nat) (v lv : Value) (R : List (List Nat)) (l : List Nat) (g0 : Nat) (hs : a.eval s = v) (hO : Orow Y B w v R) (hx : a.eval x = .slice (some ⟨g0, 0, none⟩) 1 1) (hb : w.heap[g0]? = some (.cells #[lv] 45 (0, 0))) (hl : Ws (fun b => Y b ∨ v.ownBlock = some b) w lv l) (hk : R.length ≤ 1000) (hB : B ≤ w.heap.size)
    (h : ∀ p n cap w', Orow Y B w' (.slice p n cap) (R ++ [l]) → Below B w w' → K (a.put o.dst (.slice p n cap)) w') :
    o.wp Try.prog a w K Q := by
  obtain ⟨i0, hi, hz0, hz1, hz2⟩ := info_parts info_ws
  obtain ⟨xs, hown, hr⟩ := hO
  obtain ⟨pl, cl, rfl, _⟩ := hl.slice
  refine wp_append_lies (P := Try.prog) w s x 34 ho B 45 i0 _ 1 24 Try.underlying34 hi hz0 hz1 hz2 rfl (by decide) v R.length xs hs hown ⟨g0, 0, none⟩ 1 1 [.slice pl l.length cl] hx rfl (World.news_of_block (cs := #[.slice pl l.length cl]) (t := 45) (fr := (0, 0)) hb) (by simp [Value.oneCell']) (by omega) (by unfold maxLen; omega) (by omega) hB w.heap.size rfl ?_
  intro g cap w' hown' hgrow hat hlt
  have el : (R ++ [l]).length = R.length + 1 := by simp
  have hlen : xs.length = R.length := by have := hown.1; omega
  exact h _ _ _ _ (Orow.push (v' := .slice (some ⟨g, 0, none⟩) (R.length + 1) cap) hr hlen hl hgrow rfl hat hown') (Below.grown (Below.refl B w) hgrow hB fun k hk => (hown.lt k hk).1)
theorem wpList_pushG (hgd : o.guard = none) (s x : Operand)
    (ho : o.op = .call { callee := .builtin .append, args := #[s, x], argTypes := #[34, 34] })
    (B : Nat) (v lv : Value) (R : List (List Nat)) (l : List Nat) (g0 : Nat) (hs : a.eval s = v) (hO : Orow Y B w v R) (hx : a.eval x = .slice (some ⟨g0, 0, none⟩) 1 1) (hb : w.heap[g0]? = some (.cells #[lv] 45 (0, 0))) (hl : Ws (fun b => Y b ∨ v.ownBlock = some b) w lv l) (hk : R.length ≤ 1000) (hB : B ≤ w.heap.size)
    (h : ∀ p n cap w', Orow Y B w' (.slice p n cap) (R ++ [l]) → Below B w w' → wpList Try.prog ops Q rest (a.put o.dst (.slice p n cap)) w') :
    wpList Try.prog ops Q (o :: rest) a w :=
  wpList_plain hgd fun _ hK => wp_pushG s x ho B v lv R l g0 hs hO hx hb hl hk hB fun p n cap w' h1 h2 => hK _ _ (h p n cap w' h1 h2)
theorem step_pushG {K : Act → World → Prop} {E : Prop} (hgd : o.guard = none) (s x : Operand)
    (ho : o.op = .call { callee := .builtin .append, args := #[s, x], argTypes := #[34, 34] })
    (B : Nat) (v lv : Value) (R : List (List Nat)) (l : List Nat) (g0 : Nat) (hs : a.eval s = v) (hO : Orow Y B w v R) (hx : a.eval x = .slice (some ⟨g0, 0, none⟩) 1 1) (hb : w.heap[g0]? = some (.cells #[lv] 45 (0, 0))) (hl : Ws (fun b => Y b ∨ v.ownBlock = some b) w lv l) (hk : R.length ≤ 1000) (hB : B ≤ w.heap.size)
    (h : ∀ p n cap w', Orow Y B w' (.slice p n cap) (R ++ [l]) → Below B w w' → K (a.put o.dst (.slice p n cap)) w') :
    if Region.wanted o (yielded ops a.tmps) = true then Oper.wp Try.prog o a w K Q else E := by
  have hw : Region.wanted o (yielded ops a.tmps) = true := by simp [Region.wanted, hgd]
  rw [if_pos hw]
  exact wp_pushG s x ho B v lv R l g0 hs hO hx hb hl hk hB h
/-- at the walk: behind the making -/
theorem wpList_push (hgd : o.guard = none) (s x : Operand)
    (ho : o.op = .call { callee := .builtin .append, args := #[s, x], argTypes := #[34, 34] })
    (B : Nat) (v lv : Value) (R : List (List Nat)) (l : List Nat) (hs : a.eval s = v) (hO : Orow Y B w v R) (hx : a.eval x = .slice (some ⟨w.heap.size, 0, none⟩) 1 1) (hl : Ws (fun b => Y b ∨ v.ownBlock = some b) w lv l) (hk : R.length ≤ 1000) (hB : B ≤ w.heap.size)
    (h : ∀ p n cap w', Orow Y B w' (.slice p n cap) (R ++ [l]) → Below B w w' → wpList Try.prog ops Q rest (a.put o.dst (.slice p n cap)) w') :
    wpList Try.prog ops Q (o :: rest) a (w.alloc (.cells #[lv] 45)) := by
  have g := (Bel.refl w).alloc (.cells #[lv] 45)
  exact wpList_pushG hgd s x ho B v lv R l w.heap.size hs (hO.bel g) hx (heap_alloc_new w _) (hl.bel g) hk (by rw [size_alloc1]; omega) fun p n cap w' h1 h2 => h p n cap w' h1 (Below.trans (g.mono hB) h2)
end

end Go.Proofs.Yteipadpifmjnmaa
