/- Copies of rows: slices.Clone of words, of numbers. -/
import Derived.Test.YteipadpifmjnmaaPst
namespace Go.Proofs.Yteipadpifmjnmaa
open Go.ChangeShapes Go.WideShapes Go.ChangeAt Go.RowKit Go.Deep
set_option linter.unusedVariables false

theorem eqn64 (a : Option Addr) (n c : Nat) (w : World) : (binOp .eql 45 (.slice a n c) (.slice none 0 0)).run Try.prog w = .ok (.bool a.isNone) w := Lib.run_eql_slice_nil w _ _ a n c 0 0 Try.underlying45
theorem eqni (a : Option Addr) (n c : Nat) (w : World) : (binOp .eql 22 (.slice a n c) (.slice none 0 0)).run Try.prog w = .ok (.bool a.isNone) w := Lib.run_eql_slice_nil w _ _ a n c 0 0 Try.underlying22

theorem pcl64 (X : Nat → Prop) (v : Value) (l : List Nat) (w : World) (h : Ws X w v l) (h1 : 1 ≤ l.length) (h2 : l.length ≤ 1000000) :
    Calls Try.prog 36 #[v] w fun e w' => (∃ g cap, e = .returned (.slice (some ⟨g, 0, none⟩) l.length cap) ∧ Own64 w.heap.size w' (.slice (some ⟨g, 0, none⟩) l.length cap) l) ∧ Bel w w' := by
  have hI := h
  rcases h with ⟨rfl, _⟩ | ⟨b, off, c, rfl, _, _, _, _, _⟩
  · simp at h1
  have e0 := eqn64 (some ⟨b, off, none⟩) l.length c
  have e0' : ∀ w : World, (binOp .eql 45 (.slice (some ⟨b, off, none⟩) l.length c) (.slice none 0 0)).run Try.prog w = .ok (.bool false) w := e0
  clear e0
  have hid := Lib.hid (And.intro hI (And.intro h1 h2))
  clear hI h1 h2
  go_enter Try.func36, Try.ntmps36
  go_wp2_with (at_builtin
               refine wpList_appW rfl (.tmp 5) (.tmp 6) rfl w.heap.size _ [] rfl (World.ownsRow_made w #[] 0 (Nat.le_refl _) (Nat.zero_le _) rfl) _ l rfl (hid.out.1.bel ((Bel.refl w).alloc _)) hid.out.2.1 (by have := hid.out.2.2; simp; omega) (by rw [size_alloc1]; omega) ?_
               intro g n1 cap2 w1 hn1 hO1 hg1 hat1
               obtain rfl : n1 = l.length := by simpa using hn1
               have hO2 : Own64 w.heap.size w1 (.slice (some ⟨g, 0, none⟩) l.length cap2) l := by simpa using hO1
               have hB1 : Bel w w1 := Below.grown ((Bel.refl w).alloc (.cells #[] 40)) hg1 (by rw [size_alloc1]; omega) (fun k hk => Nat.le_of_eq (Option.some.inj hk))
               have hid3 := Lib.hid (And.intro hO2 hB1)
               clear hn1 hO1 hO2 hg1 hat1 hB1)
  go_ret
  exact ⟨⟨g, cap2, rfl, hid3.out.1⟩, hid3.out.2⟩
theorem pcl64_nil (w : World) :
    Calls Try.prog 36 #[.slice none 0 0] w fun e w' => e = .returned (.slice none 0 0) ∧ w' = w := by
  have e0 : ∀ w : World, (binOp .eql 45 (.slice none 0 0) (.slice none 0 0)).run Try.prog w = .ok (.bool true) w := eqn64 none 0 0
  go_enter Try.func36, Try.ntmps36
  go_wp2
  go_ret
  exact ⟨rfl, rfl⟩

/-- numbers appended to an owned row of numbers -/
theorem wpList_appI {ops : Array Oper} {rest : List Oper} {o : Oper} {a : Act} {Q : Exit → Act → World → Prop} {w : World} (hgd : o.guard = none) (s x : Operand)
    (ho : o.op = .call { callee := .builtin .append, args := #[s, x], argTypes := #[22, 22] })
    (B : Nat) (v : Value) (n : Nat) (xs : List Value) (hs : a.eval s = v) (hown : w.ownsRow B 3 1 v n xs) (ad : Addr) (m c : Nat) (ys : List Value) (hx : a.eval x = .slice (some ad) m c) (hl : ys.length = m) (hnews : ∀ j u, ys[j]? = some u → w.cell? (ad.add j) = some u) (h1 : ∀ u ∈ ys, u.oneCell' = true) (hk : 0 < m) (hn : n + m ≤ 1000000) (hB : B ≤ w.heap.size)
    (h : ∀ g cap w', w'.ownsRow B 3 1 (.slice (some ⟨g, 0, none⟩) (n + m) cap) (n + m) (xs ++ ys) → w.grownBy w' v.ownBlock → (v.ownBlock = some g ∨ g = w.heap.size) → wpList Try.prog ops Q rest (a.put o.dst (.slice (some ⟨g, 0, none⟩) (n + m) cap)) w') :
    wpList Try.prog ops Q (o :: rest) a w := by
  obtain ⟨i0, hi, hz0, hz1, hz2⟩ := info_parts info_num
  refine wpList_append_lies (P := Try.prog) w hgd s x 22 ho B 3 i0 (.int .i64 0) 1 8 Try.underlying22 hi hz0 hz1 hz2 rfl (by decide) v n xs hs hown ad m c ys hx (by omega) hnews h1 hk (by unfold maxLen; omega) (by omega) hB w.heap.size rfl ?_
  intro g cap' w' hown' hgrow hat hlt
  exact h g cap' w' hown' hgrow hat

theorem eL_one (R : List (List Nat)) : ∀ u ∈ eL R, u.oneCell' = true := by
  intro u hu
  unfold eL at hu
  obtain ⟨j, _, rfl⟩ := List.mem_map.1 hu
  rfl
theorem own_news {w : World} {B g n k : Nat} {e : TypeId} {xs : List Value} (h : w.ownsRow B e 1 (.slice (some ⟨g, 0, none⟩) n k) n xs) : ∀ j u, xs[j]? = some u → w.cell? ((⟨g, 0, none⟩ : Addr).add j) = some u := by
  intro j u hu
  have hl : xs.length = n := by have := h.1; omega
  have := (List.getElem?_eq_some_iff.1 hu).1
  rw [add_plain, Nat.zero_add, World.ownsRow.cellAt h j (by omega), hu]

theorem pcli (g2 k2 : Nat) (R : List (List Nat)) (w : World) (h : w.ownsRow 0 3 1 (.slice (some ⟨g2, 0, none⟩) (R.length + 1) k2) (R.length + 1) (eL R)) (hR : R.length ≤ 8) :
    Calls Try.prog 42 #[.slice (some ⟨g2, 0, none⟩) (R.length + 1) k2] w fun e w' => (∃ g cap, e = .returned (.slice (some ⟨g, 0, none⟩) (R.length + 1) cap) ∧ w'.ownsRow w.heap.size 3 1 (.slice (some ⟨g, 0, none⟩) (R.length + 1) cap) (R.length + 1) (eL R)) ∧ Bel w w' := by
  have e0 : ∀ w : World, (binOp .eql 22 (.slice (some ⟨g2, 0, none⟩) (R.length + 1) k2) (.slice none 0 0)).run Try.prog w = .ok (.bool false) w := eqni (some ⟨g2, 0, none⟩) (R.length + 1) k2
  have hid := Lib.hid (And.intro h hR)
  clear h hR
  obtain ⟨m, hm⟩ : ∃ m, R.length + 1 = m := ⟨_, rfl⟩
  rw [hm] at hid e0 ⊢
  have hm' := Lib.hid hm
  clear hm
  go_enter Try.func42, Try.ntmps42
  go_wp2_with (at_builtin
               refine wpList_appI rfl (.tmp 5) (.tmp 6) rfl w.heap.size _ 0 [] rfl (World.ownsRow_made w #[] 0 (Nat.le_refl _) (Nat.zero_le _) rfl) ⟨g2, 0, none⟩ m k2 (eL R) rfl (by rw [eL_len]; exact hm'.out) (own_news (own_heap hid.out.1 (((Bel.refl w).alloc _).block _ (own_cap hid.out.1).2.2))) (eL_one R) (by have := hm'.out; omega) (by have := hm'.out; have := hid.out.2; omega) (by rw [size_alloc1]; omega) ?_
               intro g cap2 w1 hO1 hg1 hat1
               rw [Nat.zero_add] at hO1 ⊢
               rw [List.nil_append] at hO1
               have hB1 : Bel w w1 := Below.grown ((Bel.refl w).alloc (.cells #[] 3)) hg1 (by rw [size_alloc1]; omega) (fun k hk => Nat.le_of_eq (Option.some.inj hk))
               have hid3 := Lib.hid (And.intro hO1 hB1)
               clear hO1 hg1 hat1 hB1)
  go_ret
  exact ⟨⟨g, cap2, rfl, hid3.out.1⟩, hid3.out.2⟩

end Go.Proofs.Yteipadpifmjnmaa
