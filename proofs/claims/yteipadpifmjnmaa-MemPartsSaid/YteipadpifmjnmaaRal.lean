/- All of the document's memories; Same of words; the size that a statement looks at. -/
import Derived.Test.YteipadpifmjnmaaRnw
namespace Go.Proofs.Yteipadpifmjnmaa
open Go.ChangeShapes Go.WideShapes Go.ChangeAt Go.RowKit Go.Deep
set_option linter.unusedVariables false

/-- memories of a configuration's kind -/
def RmFull (R : List (List Nat)) : Prop := R.length ≤ 8 ∧ ∀ (j : Nat) (l : List Nat), R[j]? = some l → 1 ≤ l.length ∧ l.length ≤ 100000
theorem RmFull.ok {R : List (List Nat)} (h : RmFull R) : RmOk R := ⟨by have := h.1; omega, fun j l hj => (h.2 j l hj).2⟩
theorem RmFull.set {R : List (List Nat)} (h : RmFull R) (t a u : Nat) : RmFull (setR R t a u) := by
  refine ⟨by rw [setR_len]; exact h.1, fun j l hj => ?_⟩
  have e := setR_row R t a u j
  have hj2 := (List.getElem?_eq_some_iff.1 hj).1
  rw [setR_len] at hj2
  rw [List.getD_eq_getElem?_getD, hj, List.getD_eq_getElem?_getD, List.getElem?_eq_getElem hj2] at e
  have := h.2 j _ (List.getElem?_eq_getElem hj2)
  simp at e
  omega
theorem RmFull.wipe {R : List (List Nat)} (h : RmFull R) (t a : Nat) : ∀ n, RmFull (wipe R t a n)
  | 0 => h
  | n + 1 => (h.wipe t a n).set _ _ _
theorem RmFull.store {R : List (List Nat)} (h : RmFull R) (t a : Int) (u : Nat) : RmFull (storeR R t a u) := by
  unfold storeR; split
  · exact h.set _ _ _
  · exact h
theorem RmFull.zero {R : List (List Nat)} (h : RmFull R) (t a n : Int) : RmFull (zeroR R t a n) := by
  unfold zeroR; split
  · exact h.wipe _ _ _
  · exact h
theorem sumTo_one {f : Nat → Int} {B : Int} : ∀ {n : Nat}, 1 ≤ n → (∀ k, k < n → B ≤ f k) → 0 ≤ B → B ≤ sumTo f n
  | 1, _, h, _ => by show B ≤ sumTo f 0 + f 0; have := h 0 (by omega); show B ≤ 0 + f 0; omega
  | n + 2, _, h, hB => by
    have a := sumTo_one (n := n + 1) (by omega) (fun k hk => h k (by omega)) hB
    have b := h (n + 1) (by omega)
    show B ≤ sumTo f (n + 1) + f (n + 1)
    omega
theorem Cf.region_pos {c : Cf} (ok : c.ok) {t : Nat} (ht : t < c.m) : 1 ≤ c.region t := by
  refine sumTo_one (Cf.ok_n ok).1 (fun k hk => ?_) (by decide)
  obtain ⟨z1, z2, _⟩ := Cf.pages_bd ok ht hk
  obtain ⟨g1, g2, _⟩ := Cf.ok_page ok
  have := Int.mul_le_mul (show (1 : Int) ≤ c.pages t k from z1) (show (1 : Int) ≤ c.page by omega) (by omega) (by omega)
  omega
/-- the words of a configuration that is not too great -/
theorem Cf.region_base {c : Cf} (ok : c.ok) : ∀ m, m ≤ c.m → ∀ t, t < m → c.region t ≤ c.base m
  | 0, _, t, ht => by omega
  | m + 1, hm, t, ht => by
    have e := Cf.base_succ c m
    have b := Cf.base_bd ok (show m ≤ c.m by omega)
    have r := Cf.region_bd ok (show m < c.m by omega)
    by_cases h : t = m
    · subst h; omega
    · have := Cf.region_base ok m (by omega) t (by omega); omega
theorem Cf.zeros_full {c : Cf} (ok : c.ok) (h : c.base c.m ≤ 4000) : RmFull c.zeros := by
  refine ⟨by rw [Cf.zeros_len]; exact (Cf.ok_m ok).2, fun j l hj => ?_⟩
  have hj2 := (List.getElem?_eq_some_iff.1 hj).1
  rw [Cf.zeros_len] at hj2
  rw [c.zeros_at hj2] at hj
  injection hj with hj
  subst hj
  rw [List.length_replicate]
  have a := Cf.region_pos ok hj2
  have b := Cf.region_base ok c.m (Nat.le_refl _) j hj2
  omega

theorem take_flat_len {R : List (List Nat)} (h : RmFull R) : ∀ k, (R.take k).flatten.length ≤ k * 100000
  | 0 => by simp
  | k + 1 => by
    have a := take_flat_len h k
    by_cases h1 : k < R.length
    · have b := (h.2 k _ (List.getElem?_eq_getElem h1)).2
      rw [take_more (List.getElem?_eq_getElem h1), List.flatten_append, List.length_append]
      simp only [List.flatten_cons, List.flatten_nil, List.append_nil]
      omega
    · have e1 : R.take k = R := List.take_of_length_le (by omega)
      have e2 : R.take (k + 1) = R := List.take_of_length_le (by omega)
      rw [e1] at a
      rw [e2]
      exact Nat.le_trans a (Nat.mul_le_mul_right _ (Nat.le_succ k))

theorem Own64.bel {B : Nat} {w w' : World} {v : Value} {l : List Nat} (h : Own64 B w v l) (g : Bel w w') : Own64 B w' v l := by
  refine ⟨h.1, ?_⟩
  rcases h.2 with hn | ⟨g', cap, cur, rfl, hb, hg, rest⟩
  · exact Or.inl hn
  · exact Or.inr ⟨g', cap, cur, rfl, hb, heap_bel g hg, rest⟩

set_option maxHeartbeats 1000000 in
theorem rall_any (X : Nat → Prop) (v : Value) (R : List (List Nat)) (w : World) (h : IsRm X w v R) (hR : RmFull R) :
    Calls Try.prog 32 #[v] w fun e w' => (∃ v', e = .returned v' ∧ Own64 w.heap.size w' v' R.flatten) ∧ Bel w w' := by
  obtain ⟨rv, rfl, hRs⟩ := h
  obtain ⟨p, cap, rfl, bd⟩ := hRs.slice
  have b1 := (Bel.refl w).alloc (.cells #[.slice p R.length cap] 36)
  have hid := Lib.hid (And.intro hRs.old (And.intro hR b1))
  obtain ⟨m, hmm⟩ : ∃ m, R.length = m := ⟨_, rfl⟩
  have hidm := Lib.hid hmm
  rw [hmm] at hid bd b1 ⊢
  clear hRs hR hmm
  have c0 := agg_at (w := w) (Bel.refl (w.alloc (.cells #[.slice p m cap] 36))) 0
  go_enter Try.func32, Try.ntmps32
  go_wp2
  go_loopw [4, 3] (fun i o wr => ∃ k : Nat, k ≤ m ∧ i = .int .i64 (k : Nat) ∧ Own64 (w.heap.size + 1) wr o ((R.take k).flatten) ∧ Bel (w.alloc (.cells #[.slice p m cap] 36)) wr) (fun i _ _ => m - (intOf i).toNat)
  case atStart => exact ⟨0, Nat.zero_le _, rfl, by simp only [List.take_zero, List.flatten_nil]; exact World.ownsRow_nil _ _ _ _, Bel.refl _⟩
  case round =>
    obtain ⟨k, hk, rfl, hO, hbr⟩ := hrel
    have c1 := cell_bel hbr c0
    have sz := hbr.size
    rw [size_alloc1] at sz
    by_cases ck : k < m
    · have e0 : Below w.heap.size w wr := hid.out.2.2.trans hbr
      have hRs := hid.out.1.exc (Below.exc (X := X) e0)
      obtain ⟨l, hl⟩ : ∃ l, R[k]? = some l := ⟨R[k]'(by rw [hidm.out]; exact ck), List.getElem?_eq_getElem _⟩
      obtain ⟨b, off, cap', lv, ev, j1, j2, j3, j4, c, hw⟩ := hRs.at hl
      injection ev with ev1 ev2 ev3
      clear ev2
      subst ev1; subst ev3
      obtain ⟨pl, cl, rfl, bdl⟩ := hw.slice
      have lb := hid.out.2.1.2 _ _ hl
      have m8 := hid.out.2.1.1
      have fl := take_flat_len hid.out.2.1 k
      have kI : (k : Int) < (m : Int) := by omega
      have kz : (0 : Int) ≤ (k : Int) := by omega
      have hidO := Lib.hid (And.intro hO (And.intro hw (take_more hl)))
      have bn : ((R.take k).flatten).length + l.length ≤ 1000000 := by have := hidm.out; omega
      have hbn := Lib.hid (And.intro lb bn)
      clear hO hRs hw hl lb m8 fl bn
      go_wp2_with (at_builtin
                   refine wpList_appW rfl (.tmp 12) (.tmp 17) rfl (w.heap.size + 1) _ _ rfl hidO.out.1 _ l rfl hidO.out.2.1 hbn.out.1.1 hbn.out.2 sz ?_
                   intro g n1 cap2 w1 hn1 hO1 hg1 hat1
                   have hid1 := Lib.hid (And.intro hO1 hg1)
                   clear hn1 hO1 hg1 hat1)
      go_roundw
      case rel =>
        obtain ⟨hO1, hg1⟩ := hid1.out
        refine ⟨k + 1, by omega, by go_num, ?_, ?_⟩
        · rw [hidO.out.2.2, List.flatten_append]
          simpa using hO1
        · exact Below.grown hbr hg1 hbr.size (fun x hx => by have := (hidO.out.1.lt x hx).1; rw [size_alloc1]; omega)
      case measure => simp only [intOf]; omega
    · obtain rfl : k = m := by omega
      have eT : R.take k = R := List.take_of_length_le (by rw [hidm.out]; omega)
      rw [eT] at hO
      have hidO := Lib.hid hO
      clear hO eT
      go_wp2
      go_ret
      have hO := hidO.out
      refine ⟨⟨_, rfl, ⟨hO.1, ?_⟩⟩, hid.out.2.2.trans hbr⟩
      rcases hO.2 with hn | ⟨g', cap, cur, e, hb, rest⟩
      · exact Or.inl hn
      · exact Or.inr ⟨g', cap, cur, e, by omega, rest⟩

end Go.Proofs.Yteipadpifmjnmaa
