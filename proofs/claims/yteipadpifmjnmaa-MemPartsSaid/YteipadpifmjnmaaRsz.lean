/- Store and Zero of the document's memories. -/
import Derived.Test.YteipadpifmjnmaaRwi
import Derived.Laws.ResultCell
namespace Go.Proofs.Yteipadpifmjnmaa
open Go.ChangeShapes Go.WideShapes Go.ChangeAt Go.RowKit Go.Deep
set_option linter.unusedVariables false

theorem results_cell_row2 {P : Program} {fn : Func} {p u : Tmp} {ty : TypeId} (h : fn.results = #[.cell p ty, .tmp u]) (tmps : Array Value) (w : World) (g : Nat) (t : TypeId) (cs : Array Value) (fr : Nat × Nat) (d : TypeDesc)
    (hp : tmps.getD p undef = .pointer (some ⟨g, 0, none⟩)) (hg : w.heap[g]? = some (.cells cs t fr))
    (hu : P.underlying ty = some d) (hd : (match d with | .struct _ | .array _ _ => true | _ => false) = true) (hi : (P.info? ty).map (·.size) = some cs.size) :
    (results fn tmps).run P w = .ok (.tuple #[.agg cs, tmps.getD u undef]) w := by
  rw [results_cell_tmp h, hp]
  simp [asAddr, run_loadVar_row w g t ty cs fr d hg hu hd hi]

/-- memories that are not too great -/
def RmOk (R : List (List Nat)) : Prop := R.length ≤ 1000 ∧ ∀ (j : Nat) (l : List Nat), R[j]? = some l → l.length ≤ 100000
theorem RmOk.set {R : List (List Nat)} (h : RmOk R) (t a u : Nat) : RmOk (setR R t a u) := by
  refine ⟨by rw [setR_len]; exact h.1, fun j l hj => ?_⟩
  have e := setR_row R t a u j
  have hj2 := (List.getElem?_eq_some_iff.1 hj).1
  rw [setR_len] at hj2
  rw [List.getD_eq_getElem?_getD, hj, List.getD_eq_getElem?_getD, List.getElem?_eq_getElem hj2] at e
  have := h.2 j _ (List.getElem?_eq_getElem hj2)
  simp at e
  omega
theorem RmOk.wipe {R : List (List Nat)} (h : RmOk R) (t a : Nat) : ∀ n, RmOk (wipe R t a n)
  | 0 => h
  | n + 1 => (h.wipe t a n).set _ _ _

theorem two_boxes (w : World) (a b : Obj) : ((w.alloc a).alloc b).heap[w.heap.size]? = some a ∧ ((w.alloc a).alloc b).heap[w.heap.size + 1]? = some b ∧ ((w.alloc a).alloc b).heap.size = w.heap.size + 2 := by
  have s1 := size_alloc1 w a
  have s2 := size_alloc1 (w.alloc a) b
  have e2 := box_at (w := w.alloc a) (o := b) (Bel.refl _)
  rw [s1] at e2
  exact ⟨box_at (w := w) (o := a) ((Bel.refl (w.alloc a)).alloc b), e2, by omega⟩

set_option maxHeartbeats 1000000 in
theorem rstore_any (X : Nat → Prop) (v : Value) (R : List (List Nat)) (t a : Int) (u : Nat) (w : World) (h : IsRm X w v R) (hX : Till X w) (ok : RmOk R) :
    Calls Try.prog 31 #[v, .int .i64 t, .int .i64 a, .int .u64 (u : Nat)] w fun e w' => (∃ v', e = .returned (.tuple #[v', .int .i64 (inE R t a)]) ∧ IsRm X w' v' (storeR R t a u)) ∧ Bel w w' := by
  have hI := h
  obtain ⟨rv, rfl, hR⟩ := h
  obtain ⟨p, cap, rfl, bd⟩ := hR.slice
  have b2 := ((Bel.refl w).alloc (.cells #[.slice p R.length cap] 36)).alloc (.cells #[.slice none 0 0] 36)
  obtain ⟨m0, m1, m2⟩ := two_boxes w (.cells #[.slice p R.length cap] 36) (.cells #[.slice none 0 0] 36)
  have ii := in_any X _ R t a _ (hI.bel b2)
  obtain ⟨W2, hW2⟩ : ∃ W2, ((w.alloc (.cells #[.slice p R.length cap] 36)).alloc (.cells #[.slice none 0 0] 36)) = W2 := ⟨_, rfl⟩
  have hm := Lib.hid (And.intro m0 (And.intro m1 m2))
  rw [hW2] at hm b2 ii
  clear m0 m1 m2
  by_cases z : inE R t a = 0
  · obtain ⟨t', a', l, u0, rfl, rfl, h1, h2, h3, h4⟩ := inE_ok z
    have eS : storeR R t' a' u = setR R t' a' u := by unfold storeR; rw [if_pos z, Int.toNat_natCast, Int.toNat_natCast]
    have hl := ok.2 _ _ h1
    have al := (List.getElem?_eq_some_iff.1 h2).1
    have hRx : Rs (fun b => X b ∨ b = w.heap.size + 1) w (.slice p R.length cap) R := hR.old.less fun k hk => by
      rcases hk with hk | hk
      · exact Or.inl hk
      · exact Or.inr (by omega)
    have hXx : ∀ W, Bel W2 W → Till (fun b => X b ∨ b = w.heap.size + 1) W := fun W g k hk => by
      have := g.size
      have := hm.out.2.2
      rcases hk with hk | hk
      · have := hX k hk; omega
      · omega
    have wt := fun W (g : Bel W2 W) => with_any (fun b => X b ∨ b = w.heap.size + 1) (.slice p R.length cap) R t' a' u l W (hRx.bel (b2.trans g)) (hXx W g) h1 al ok.1 hl
    rw [z] at ii ⊢
    rw [eS]
    have hid := Lib.hid (And.intro hX b2)
    clear hI hR h1 h2 h3 h4 eS hl al ok hX z hRx hXx
    generalize setR R t' a' u = S at *
    generalize R.length = m at *
    subst hW2
    go_enter Try.func31, Try.ntmps31
    go_wp2_with (first
      | (go_at_call 49; refine ii.mono ?_; rintro e w3 ⟨rfl, hg⟩; have c0 := cell_of_row _ _ 0 _ _ (0, 0) (heap_bel hg hm.out.1))
      | (go_at_call 50; refine (wt _ hg).mono ?_; rintro e w4 ⟨⟨v', rfl, rv', rfl, hR'⟩, hg2⟩
         obtain ⟨p', cap', rfl, bd'⟩ := hR'.slice
         obtain ⟨fz, cx3, W5, hW5, hbx5, cx5, hE5⟩ := box_store (x := .slice p' S.length cap') (heap_bel hg2 (heap_bel hg hm.out.2.1))
         have hid5 := Lib.hid (And.intro hR' (And.intro hbx5 hE5))
         clear hR' hbx5 hE5))
    (try simp only [Exit.inBlock, Exit.then])
    refine bodyPost_ret (results_cell_row2 rfl _ _ _ 36 _ (0, 0) _ rfl hid5.out.2.1 Try.underlying36 rfl info_rm) rfl ?_
    obtain ⟨hR', hbx5, hE5⟩ := hid5.out
    have sz := hm.out.2.2
    have hb5 : Bel w W5 := Below.trans (b2.trans (hg.trans hg2)) (hE5.below (fun x hx => by omega) (by have := hg.size; have := hg2.size; omega))
    exact ⟨⟨_, rfl, _, rfl, (hR'.exc (hE5.mono fun k hk => Or.inr hk)).less fun k hk => Or.inl hk⟩, hb5⟩
  · have eS : storeR R t a u = R := if_neg z
    have z2 : (inE R t a != 0) = true := by rw [bne_iff_ne]; exact z
    rw [eS]
    have hRx : Rs (fun b => X b ∨ b = w.heap.size + 1) w (.slice p R.length cap) R := hR.old.less fun k hk => by
      rcases hk with hk | hk
      · exact Or.inl hk
      · exact Or.inr (by omega)
    have hid := Lib.hid (And.intro hRx b2)
    clear hI hR eS hX hRx ok
    generalize inE R t a = E at *
    obtain ⟨m, hmm⟩ : ∃ m, R.length = m := ⟨_, rfl⟩
    rw [hmm] at hW2 ii bd hm hid ⊢
    subst hW2
    go_enter Try.func31, Try.ntmps31
    go_wp2_with (go_at_call 49; refine ii.mono ?_; rintro e w3 ⟨rfl, hg⟩; have c0 := cell_of_row _ _ 0 _ _ (0, 0) (heap_bel hg hm.out.1)
                 obtain ⟨fz, cx3, W5, hW5, hbx5, cx5, hE5⟩ := box_store (x := .slice p m cap) (heap_bel hg hm.out.2.1)
                 have hid5 := Lib.hid (And.intro hbx5 hE5)
                 clear hbx5 hE5)
    (try simp only [Exit.inBlock, Exit.then])
    refine bodyPost_ret (results_cell_row2 rfl _ _ _ 36 _ (0, 0) _ rfl hid5.out.1 Try.underlying36 rfl info_rm) rfl ?_
    obtain ⟨hbx5, hE5⟩ := hid5.out
    obtain ⟨hRx, b2⟩ := hid.out
    have sz := hm.out.2.2
    have hb5 : Bel w W5 := Below.trans (b2.trans hg) (hE5.below (fun x hx => by omega) (by have := hg.size; omega))
    exact ⟨⟨_, rfl, _, rfl, (((hRx.bel (b2.trans hg)).exc (hE5.mono fun k hk => Or.inr hk)).less fun k hk => Or.inl hk)⟩, hb5⟩

end Go.Proofs.Yteipadpifmjnmaa
