/- The size that a statement looks at; the document's example; what is answered of it. -/
import Derived.Test.YtjgjomojcocegaaDoorQa
import Derived.Test.YtjgjomojcocegaaDoorAd
import Derived.Test.YtjgjomojcocegaaDoorRnw
import Derived.Test.YtjgjomojcocegaaDoorBcp
import Derived.Test.YtjgjomojcocegaaDoorBms
import Derived.Deep.RegionHeld3
namespace Go.Proofs.YtjgjomojcocegaaDoor
open Go.ChangeShapes Go.WideShapes Go.ChangeAt Go.RowKit Go.Deep
set_option linter.unusedVariables false

def Cf.great10 (c : Cf) : Prop := ¬ (c.n ≤ 50 ∧ c.m ≤ 50) ∨ 4000 < c.totR
instance (c : Cf) : Decidable c.great10 := by unfold Cf.great10; infer_instance

theorem great10_any (v : Value) (c : Cf) (w : World) (h : IsCf w v c) :
    Calls Tryd.prog 28 #[v] w fun e w' => e = .returned (.bool (decide c.great10)) ∧ Bel w w' := by
  have hI := h
  obtain ⟨vc, vt, rfl, hN, hT⟩ := h
  obtain ⟨p1, c1, rfl, _⟩ := nums_slice hN
  obtain ⟨p2, c2, rfl, _⟩ := tens_slice hT
  clear hN hT
  have hb0 : ∀ o, Bel w (w.alloc o) := fun o => (Bel.refl w).alloc o
  have hb := hb0 (.cells #[.slice p1 c.n c1, .int .i64 c.page, .slice p2 c.m c2, .int .i64 c.wk, .int .i64 c.gr, .int .i64 c.gn] 25)
  clear hb0
  have tt := rtot_any _ c _ (hI.bel hb)
  have sm := fun W (g : Bel (w.alloc (.cells #[.slice p1 c.n c1, .int .i64 c.page, .slice p2 c.m c2, .int .i64 c.wk, .int .i64 c.gr, .int .i64 c.gn] 25)) W) => small_any _ c W (hI.bel (hb.trans g))
  obtain ⟨R, hR⟩ : ∃ R, decide c.great10 = R := ⟨_, rfl⟩
  rw [hR]
  by_cases s : c.n ≤ 50 ∧ c.m ≤ 50
  · simp only [decide_eq_true s] at sm
    have e : decide c.great10 = decide (4000 < c.totR) := decide_eq_decide.2 ⟨fun x => x.resolve_left fun y => y s, Or.inr⟩
    rw [e] at hR
    subst hR
    clear hI s e
    generalize c.totR = T at *
    generalize c.checkC = E at *
    go_enter Tryd.func28, Tryd.ntmps28
    go_wp2_with (first
      | (go_at_call 50; refine tt.mono ?_; rintro e w' ⟨rfl, hg⟩; obtain ⟨k0, k1, k2, k3, k4, k5⟩ := cf_at hg)
      | (go_at_call 51; refine (sm _ (by assumption)).mono ?_; rintro e w' ⟨rfl, hg2⟩))
    go_ret
    exact ⟨rfl, hb.trans (hg.trans hg2)⟩
  · simp only [decide_eq_false s] at sm
    have e : decide c.great10 = true := decide_eq_true (Or.inl s)
    rw [e] at hR
    subst hR
    clear hI s e
    generalize c.totR = T at *
    generalize c.checkC = E at *
    go_enter Tryd.func28, Tryd.ntmps28
    go_wp2_with (first
      | (go_at_call 50; refine tt.mono ?_; rintro e w' ⟨rfl, hg⟩; obtain ⟨k0, k1, k2, k3, k4, k5⟩ := cf_at hg)
      | (go_at_call 51; refine (sm _ (by assumption)).mono ?_; rintro e w' ⟨rfl, hg2⟩))
    go_ret
    exact ⟨rfl, hb.trans (hg.trans hg2)⟩


def exC (pg : Int) : Cf := { n := 2, F := fun j => ([2, 4] : List Int).getD j 0, page := pg, m := 2, Q := fun j => ([20, 4] : List Int).getD j 0, Tr := fun j => ([8, 1] : List Int).getD j 0, Cp := fun j => ([4, 1] : List Int).getD j 0, As := fun j => ([1, 0] : List Int).getD j 0, wk := 1, gr := 2, gn := 3 }
theorem nat_two {j : Nat} (h : j < 2) : j = 0 ∨ j = 1 := by omega
theorem ex_made (w : World) (pg : Int) {W : World} (g : Bel ((w.alloc (.cells #[.int .i64 2, .int .i64 4] 3)).alloc (.cells #[.int .i64 20, .int .i64 8, .int .i64 4, .int .i64 1, .int .i64 4, .int .i64 1, .int .i64 1, .int .i64 0] 44)) W) :
    IsCf W (.agg #[.slice (some ⟨w.heap.size, 0, none⟩) 2 2, .int .i64 pg, .slice (some ⟨w.heap.size + 1, 0, none⟩) 2 2, .int .i64 1, .int .i64 2, .int .i64 3]) (exC pg) := by
  have s1 : (w.alloc (.cells #[.int .i64 2, .int .i64 4] 3)).heap.size = w.heap.size + 1 := size_alloc1 _ _
  have a0 := fun j => agg_at (w := w) (((Bel.refl _).alloc _).trans g) j
  have a1 := fun j => agg_at (w := w.alloc (.cells #[.int .i64 2, .int .i64 4] 3)) g j
  rw [s1] at a1
  refine ⟨_, _, rfl, Or.inr ⟨_, 0, 2, rfl, (by decide : 1 ≤ 2), (by decide : 2 ≤ 2), by decide, fun j hj => ?_⟩, Or.inr ⟨_, 0, 2, rfl, (by decide : 1 ≤ 2), (by decide : 2 ≤ 2), by decide, fun j hj => ?_⟩⟩
  · rcases nat_two hj with rfl | rfl
    · exact a0 0
    · exact a0 1
  · rcases nat_two hj with rfl | rfl
    · exact ⟨a1 0, a1 1, a1 2, a1 3⟩
    · exact ⟨a1 4, a1 5, a1 6, a1 7⟩
theorem ex_ok : (exC 8).ok := by decide
/-- the example's plan -/
def exP : Pl := (exC 8).pl 0
theorem ex_pl : PlOk exP := Cf.pl_ok ex_ok (by decide)

end Go.Proofs.YtjgjomojcocegaaDoor

/- row: the slots that an act gives. -/
namespace Go.Proofs.YtjgjomojcocegaaDoor
open Go.ChangeShapes Go.WideShapes Go.ChangeAt Go.RowKit Go.Deep
set_option linter.unusedVariables false

theorem made_bools (m : Nat) : (madeCells (Value.bool false).cells (m * 1)).toList = bL (fun _ => false) m := by
  rw [Nat.mul_one]
  apply List.ext_getElem?
  intro j
  unfold madeCells bL
  simp
  by_cases c : j < m
  · simp [c]
    show (#[Value.bool false] : Array Value)[j % 1]! = _
    rw [Nat.mod_one]
    rfl
  · simp [c]

set_option maxRecDepth 100000 in
set_option maxHeartbeats 4000000 in
theorem row_own {X : Nat → Prop} (v : Value) (P : Pl) (T : Nat → Bool) (n : Int) (w : World) (h : IsAr X w v P T) (hS : P.S ≤ 32768) (h0S : 0 < P.S) (hn : -9223372036854775808 ≤ n ∧ n ≤ 9223372036854775807) :
    Calls Tryd.prog 27 #[v, .int .i64 n] w fun e w' => (∃ b g ca ov, e = .returned (.tuple #[.pointer (some ⟨b, 0, none⟩), ov]) ∧ bt.RowIs w' b g ca P.S (rowB P T n) ∧ w.heap.size ≤ b ∧ w.heap.size ≤ g ∧ Bls w' ov P.S (rowB P T n) ∧ Avoid (fun k => k < w.heap.size) ov) ∧ Bel w w' := by
  obtain ⟨bl, ol, cl, pf, cf, pm, cm, p, cap, b, off, cb, rfl, hB, hL⟩ := h.shape
  clear hL h
  have hb := (Bel.refl w).alloc (.cells #[.slice (some ⟨bl, ol, none⟩) P.S cl, .slice pf P.T cf, .slice pm P.T cm, .int .i64 (P.W : Nat), .slice p P.n cap, .slice (some ⟨b, off, none⟩) P.S cb] 33)
  have hz := heap_alloc_new w (.cells #[.slice (some ⟨bl, ol, none⟩) P.S cl, .slice pf P.T cf, .slice pm P.T cm, .int .i64 (P.W : Nat), .slice p P.n cap, .slice (some ⟨b, off, none⟩) P.S cb] 33)
  have nr := fun W => bt.new_ok P.S (by omega) W
  obtain ⟨i0, hi, hz0, hz1, hz2⟩ := info_parts info_bool
  have b2 : i0.bytes * P.S ≤ 281474976710656 := by rw [hz2]; omega
  have b3 : P.S ≤ maxLen := by unfold maxLen; omega
  obtain ⟨W0, hW0⟩ : ∃ W, w.alloc (.cells #[.slice (some ⟨bl, ol, none⟩) P.S cl, .slice pf P.T cf, .slice pm P.T cm, .int .i64 (P.W : Nat), .slice p P.n cap, .slice (some ⟨b, off, none⟩) P.S cb] 33) = W := ⟨_, rfl⟩
  have szw : W0.heap.size = w.heap.size + 1 := by rw [← hW0]; exact size_alloc1 w _
  rw [hW0] at hb hz
  have k5 := cell_of_row _ _ 5 _ _ (0, 0) hz
  go_enter Tryd.func27, Tryd.ntmps27
  go_upto_region 1 with fail
  (try rw [hW0])
  clear hW0
  go_wp2_with (first
    | (go_at_call 20; refine (nr _).mono ?_; rintro e w1 ⟨rb, rg, rca, rfl, hR, hrg, hrb, hg1⟩; have hz1' := heap_bel hg1 hz; have k5 := cell_of_row _ _ 5 _ _ (0, 0) hz1')
    | (at_make; (refine wpList_make_full _ rfl _ _ _ rfl w1.heap.size 4 i0 _ 1 Tryd.underlying31 hi hz0 hz1 .i64 .i64 _ _ P.S rfl rfl rfl rfl b2 b3 (Nat.le_refl _) ?_; intro w2 hown hgrow)))
  rw [made_bools, ← rowP_zero P T n] at hown
  rw [← rowP_zero P T n] at hR
  obtain ⟨hRw, hcs⟩ := own_cells hown
  have hg2 : Bel w1 w2 := Below.grown (Below.refl _ _) hgrow (Nat.le_refl _) (fun x hx => by cases hx)
  have hR2 := hR.bel hg2
  have hrbl := (bt.cell_block hR.head.1).1
  have hrgl := bt.block_lt hR.at.choose_spec
  have hbl : b < w.heap.size := (cell_block (hB 0 h0S)).1
  have hz2' := heap_bel hg2 hz1'
  have hcB := fun j (hj : j < P.S) => cell_bel ((hb.trans hg1).trans hg2) (hB j hj)
  have hwb := (hb.trans hg1).trans hg2
  have hn1 := Nat.le_trans hb.size hg1.size
  generalize w1.heap.size = og at *
  have hid := Lib.hid (And.intro hcB (And.intro hz2' (And.intro hrbl (And.intro hrgl (And.intro hrb (And.intro hrg (And.intro szw (And.intro hn1 hbl))))))))
  have hst := Lib.hid (And.intro hR2 (And.intro hRw (And.intro hcs hwb)))
  clear hB hb hz hz1' hown hgrow hg1 hg2 hR hR2 hRw hcs hz2' hcB hrbl hrgl hrb hrg szw hn1 k5 nr hwb hbl
  generalize hSS : P.S = S at *
  have hSS := Lib.hid hSS
  go_loopw [9] (fun i wr => ∃ k : Nat, k ≤ S ∧ i = .int .i64 (k : Nat) ∧ RowKit.Hid (bt.RowIs wr rb rg rca S (rowP P T n k) ∧ RowAt wr og S 4 ∧ (∀ j, j < S → wr.cell? ⟨og, 0 + j, none⟩ = some (.bool (rowP P T n k j))) ∧ Bel w wr ∧ wr.heap[w.heap.size]? = w2.heap[w.heap.size]? ∧ wr.heap[b]? = w2.heap[b]?)) (fun i _ => S - (intOf i).toNat)
  case atStart => exact ⟨0, Nat.zero_le _, rfl, Lib.hid ⟨hst.out.1, hst.out.2.1, hst.out.2.2.1, hst.out.2.2.2, rfl, rfl⟩⟩
  case round =>
    obtain ⟨k, hk, rfl, hI⟩ := hrel
    obtain ⟨hR, hRw, hcs, hwb, hbx, hbb⟩ := hI.out
    have hz := hbx.trans hid.out.2.1
    have k5 := cell_of_row _ _ 5 _ _ (0, 0) hz
    by_cases ck : k < S
    · have cT := (World.cell?_of_block (a := ⟨b, off + k, none⟩) hbb).trans (hid.out.1 k ck)
      have kI : (k : Int) < (S : Int) := by omega
      have kz : (0 : Int) ≤ (k : Int) := by omega
      have hrb := hid.out.2.2.1
      have hrg := hid.out.2.2.2.1
      have hB1 := hid.out.2.2.2.2.1
      have hG1 := hid.out.2.2.2.2.2.1
      have hW1 := hid.out.2.2.2.2.2.2.1
      have hN1 := hid.out.2.2.2.2.2.2.2.1
      have hb1 := hid.out.2.2.2.2.2.2.2.2
      have st := bt.set_any (k : Nat) true wr hR
      have e1 : bt.setE S (k : Nat) = 0 := by unfold bt.setE bt.there; rw [decide_eq_true ⟨by omega, by omega⟩]; rfl
      have e2 : bt.setF S (rowP P T n k) (k : Nat) true = upd (rowP P T n k) k true := by unfold bt.setF bt.there; rw [decide_eq_true ⟨by omega, by omega⟩, Int.toNat_natCast]; rfl
      rw [e1, e2] at st
      clear e1 e2
      have hw0 : w.heap.size ≠ rg := by omega
      have hw1 : b ≠ rg := by omega
      have finS : rowB P T n k = true → ∀ w3 W4 : World, bt.RowIs w3 rb rg rca S (upd (rowP P T n k) k true) → bt.But rg wr w3 → RowAt W4 og S 4 → (∀ j, j < S → W4.cell? ⟨og, 0 + j, none⟩ = some (.bool (upd (rowP P T n k) k true j))) → (∀ m w0, m ≤ og → Below m w0 w3 → Below m w0 W4) →
          bt.RowIs W4 rb rg rca S (rowP P T n (k + 1)) ∧ RowAt W4 og S 4 ∧ (∀ j, j < S → W4.cell? ⟨og, 0 + j, none⟩ = some (.bool (rowP P T n (k + 1) j))) ∧ Bel w W4 ∧ W4.heap[w.heap.size]? = w2.heap[w.heap.size]? ∧ W4.heap[b]? = w2.heap[b]? := fun hr w3 W4 a1 a2 a3 a4 a5 => by
        rw [rowP_yes hr]
        have bl := a5 og w3 (Nat.le_refl _) (Below.refl _ _)
        have lw := heap_lt hz
        have lb := (cell_block cT).1
        refine ⟨bt.RowIs.below a1 bl hrb hrg, a3, a4, a5 _ _ (by omega) (bt.But.below hwb a2 (by omega) hwb.size), ?_, ?_⟩
        · exact (bl.block _ (by omega)).trans ((a2.2.2.2.2 _ lw hw0).trans hbx)
        · exact (bl.block _ (by omega)).trans ((a2.2.2.2.2 _ lb hw1).trans hbb)
      have finN : rowB P T n k = false → bt.RowIs wr rb rg rca S (rowP P T n (k + 1)) ∧ RowAt wr og S 4 ∧ (∀ j, j < S → wr.cell? ⟨og, 0 + j, none⟩ = some (.bool (rowP P T n (k + 1) j))) ∧ Bel w wr ∧ wr.heap[w.heap.size]? = w2.heap[w.heap.size]? ∧ wr.heap[b]? = w2.heap[b]? := fun hr => by
        rw [rowP_no hr]
        exact ⟨hR, hRw, hcs, hwb, hbx, hbb⟩
      have finS := Lib.hid finS
      have finN := Lib.hid finN
      have hidk := Lib.hid (And.intro hR (And.intro hRw (And.intro hcs (And.intro hwb (And.intro hbx hbb)))))
      have hidn := Lib.hid (And.intro hrb (And.intro hrg (And.intro hB1 (And.intro hG1 (And.intro hW1 (And.intro hN1 (And.intro hb1 (And.intro hw0 hw1))))))))
      clear hR hRw hcs hwb hbx hbb hrb hrg hB1 hG1 hW1 hN1 hI hz hb1 hw0 hw1
      by_cases hk0 : k = 0
      · subst hk0
        rw [show ((0 : Nat) : Int) = 0 from rfl] at st
        cases hT : T 0
        all_goals rw [hT] at cT
        all_goals (try rw [Nat.add_zero] at cT)
        all_goals go_wp2_with (first
          | (go_at_call 49; refine st.mono ?_; rintro e w3 ⟨rfl, hR3, hB3⟩
             have ho3 : w3.heap[og]? = wr.heap[og]? := hB3.2.2.2.2 og (heap_lt hidk.out.2.1.choose_spec.1) (by have := hidn.out.2.1; omega)
             have hRw3 := RowAt.heap hidk.out.2.1 ho3
             have hcs3 := fun j (hj : j < S) => (cell_heap ho3).trans (hidk.out.2.2.1 j hj)
             obtain ⟨fz, cx, W4, hW4, hRw4, hcs4, hbl4⟩ := row_upd hRw3 hcs3 ck true
             have hid4 := Lib.hid (And.intro hR3 (And.intro hB3 (And.intro hRw4 (And.intro hcs4 hbl4))))
             clear hR3 hB3 ho3 hRw3 hcs3 hRw4 hcs4 hbl4))
        · exact ⟨⟨0 + 1, by omega, rfl, Lib.hid (finS.out (rowB_neg (by rw [hSS.out]; omega) (by assumption)) _ _ hid4.out.1 hid4.out.2.1 hid4.out.2.2.1 hid4.out.2.2.2.1 hid4.out.2.2.2.2)⟩, by simp only [intOf]; omega⟩
        · exact ⟨⟨0 + 1, by omega, rfl, Lib.hid (finN.out (rowB_f hT (Or.inr (by assumption))))⟩, by simp only [intOf]; omega⟩
        · exact ⟨⟨0 + 1, by omega, rfl, Lib.hid (finS.out (rowB_a (by rw [hSS.out]; omega) hT (by simpa using (by assumption : Go.bits .and .i64 n 1 = 1))) _ _ hid4.out.1 hid4.out.2.1 hid4.out.2.2.1 hid4.out.2.2.2.1 hid4.out.2.2.2.2)⟩, by simp only [intOf]; omega⟩
        · exact ⟨⟨0 + 1, by omega, rfl, Lib.hid (finS.out (rowB_neg (by rw [hSS.out]; omega) (by
            rename_i h1 h2
            rcases h2 with h | h
            · exact absurd (by simpa using h) h1
            · exact h)) _ _ hid4.out.1 hid4.out.2.1 hid4.out.2.2.1 hid4.out.2.2.2.1 hid4.out.2.2.2.2)⟩, by simp only [intOf]; omega⟩
        · exact ⟨⟨0 + 1, by omega, rfl, Lib.hid (finN.out (rowB_b (by simpa using (by assumption : ¬ Go.bits .and .i64 n 1 = 1)) (Or.inr (by rename_i h1 h2; exact h2.2))))⟩, by simp only [intOf]; omega⟩
      · have d0 : decide (k = 0) = false := decide_eq_false hk0
        have d1 : ((k : Int) == 0) = false := by simp; omega
        have d2 : decide ((k : Int) = 0) = false := decide_eq_false (by omega)
        cases hT : T k
        all_goals rw [hT] at cT
        all_goals (try rw [Nat.add_zero] at cT)
        all_goals go_wp2_with (first
          | (go_at_call 49; refine st.mono ?_; rintro e w3 ⟨rfl, hR3, hB3⟩
             have ho3 : w3.heap[og]? = wr.heap[og]? := hB3.2.2.2.2 og (heap_lt hidk.out.2.1.choose_spec.1) (by have := hidn.out.2.1; omega)
             have hRw3 := RowAt.heap hidk.out.2.1 ho3
             have hcs3 := fun j (hj : j < S) => (cell_heap ho3).trans (hidk.out.2.2.1 j hj)
             obtain ⟨fz, cx, W4, hW4, hRw4, hcs4, hbl4⟩ := row_upd hRw3 hcs3 ck true
             have hid4 := Lib.hid (And.intro hR3 (And.intro hB3 (And.intro hRw4 (And.intro hcs4 hbl4))))
             clear hR3 hB3 ho3 hRw3 hcs3 hRw4 hcs4 hbl4))
        · exact ⟨⟨k + 1, by omega, by go_num, Lib.hid (finN.out (rowB_f hT (Or.inl hk0)))⟩, by simp only [intOf]; omega⟩
        · exact ⟨⟨k + 1, by omega, by go_num, Lib.hid (finS.out (rowB_a (by rw [hSS.out]; omega) hT (by assumption)) _ _ hid4.out.1 hid4.out.2.1 hid4.out.2.2.1 hid4.out.2.2.2.1 hid4.out.2.2.2.2)⟩, by simp only [intOf]; omega⟩
        · exact ⟨⟨k + 1, by omega, by go_num, Lib.hid (finN.out (rowB_b (by assumption) (Or.inl hk0)))⟩, by simp only [intOf]; omega⟩
    · obtain rfl : k = S := by omega
      have e : rowP P T n k = rowB P T n := by rw [← hSS.out]; exact rowP_all P T n
      rw [e] at hR hcs
      have hrb := hid.out.2.2.2.2.1
      have hrg := hid.out.2.2.2.2.2.1
      have hW1 := hid.out.2.2.2.2.2.2.1
      have hN1 := hid.out.2.2.2.2.2.2.2.1
      have hidE := Lib.hid (And.intro hR (And.intro hcs (And.intro hwb (And.intro (show w.heap.size ≤ rb by omega) (And.intro (show w.heap.size ≤ rg by omega) (show ¬ (og < w.heap.size) by omega))))))
      clear hR hRw hcs hwb hbx hbb hI hz hrb hrg hW1 hN1 e
      go_wp2
      go_ret2
      exact ⟨⟨rb, rg, rca, _, rfl, hidE.out.1, hidE.out.2.2.2.1, hidE.out.2.2.2.2.1, ⟨og, 0, k, rfl, hidE.out.2.1⟩, Avoid.at hidE.out.2.2.2.2.2⟩, hidE.out.2.2.1⟩
theorem row_any {X : Nat → Prop} (v : Value) (P : Pl) (T : Nat → Bool) (n : Int) (w : World) (h : IsAr X w v P T) (hS : P.S ≤ 32768) (h0S : 0 < P.S) (hn : -9223372036854775808 ≤ n ∧ n ≤ 9223372036854775807) :
    Calls Tryd.prog 27 #[v, .int .i64 n] w fun e w' => (∃ b g ca ov, e = .returned (.tuple #[.pointer (some ⟨b, 0, none⟩), ov]) ∧ bt.RowIs w' b g ca P.S (rowB P T n) ∧ w.heap.size ≤ b ∧ w.heap.size ≤ g ∧ Bls w' ov P.S (rowB P T n)) ∧ Bel w w' :=
  (row_own v P T n w h hS h0S hn).mono fun e w' ⟨⟨b, g, ca, ov, a1, a2, a3, a4, a5, _⟩, k⟩ => ⟨⟨b, g, ca, ov, a1, a2, a3, a4, a5⟩, k⟩

end Go.Proofs.YtjgjomojcocegaaDoor

/- same: are just the document's slots taken? -/
namespace Go.Proofs.YtjgjomojcocegaaDoor
open Go.ChangeShapes Go.WideShapes Go.ChangeAt Go.RowKit Go.Deep
set_option linter.unusedVariables false

theorem getB_at {n : Nat} {f : Nat → Bool} {k : Nat} (h : k < n) : bt.getB n f (k : Nat) = f k := by
  unfold bt.getB bt.there
  rw [decide_eq_true ⟨by omega, by omega⟩, Int.toNat_natCast]
  rfl
theorem getB_no {n : Nat} {f : Nat → Bool} {i : Int} (h : i < 0 ∨ (n : Int) ≤ i) : bt.getB n f i = false := by
  unfold bt.getB bt.there
  rw [decide_eq_false (by omega)]
  rfl
theorem used_le {P : Pl} (h : PlOk P) (T : Nat → Bool) : P.used T P.S ≤ 2097152 := by
  have sl : ∀ n, n ≤ P.S → P.used T n ≤ n * 64 := fun n => by
    induction n with
    | zero => intro _; exact Nat.le_refl _
    | succ n ih =>
      intro hn
      have a := ih (by omega)
      have b : P.sz n ≤ 64 := by
        obtain ⟨k, j, hk, hj, rfl⟩ := Pl.slot_of (P := P) (i := n) (by omega)
        rw [Pl.sz_at hk hj]
        exact (h.2.2.2.2.2 k hk).2.2.2.1
      show P.used T n + (if T n = true then P.sz n else 0) ≤ _
      split <;> omega
  have := sl P.S (Nat.le_refl _)
  have := h.2.1
  omega

/-- the box of an arena, one of its truths, and that all lies as it lay -/
theorem keepA {w W : World} {B b o : Nat} {x0 x1 x2 x3 x4 x5 y : Value} {t : TypeId} (hB : w.heap[B]? = some (.cells #[x0, x1, x2, x3, x4, x5] t (0, 0))) (hy : w.cell? ⟨b, o, none⟩ = some y) (g : Bel w W) :
    Bel w W ∧ (W.cell? ⟨B, 0, none⟩ = some x0 ∧ W.cell? ⟨B, 1, none⟩ = some x1 ∧ W.cell? ⟨B, 2, none⟩ = some x2 ∧ W.cell? ⟨B, 3, none⟩ = some x3 ∧ W.cell? ⟨B, 4, none⟩ = some x4 ∧ W.cell? ⟨B, 5, none⟩ = some x5) ∧ W.cell? ⟨b, o, none⟩ = some y :=
  ⟨g, (box6 (heap_bel g hB)).1, cell_bel g hy⟩

set_option maxRecDepth 100000 in
set_option maxHeartbeats 4000000 in
theorem same_any {X : Nat → Prop} (v q : Value) (pl lo hi : Nat) (P : Pl) (T : Nat → Bool) (w : World) (hA : IsA w v pl lo hi P T) (hh : hi ≤ w.heap.size) (ht : Tb w) (hq : IsAr X w q P T) (hS1 : 1 ≤ P.S) :
    Calls Tryd.prog 11 #[v, q] w fun e w' => e = .returned (.bool true) ∧ Bel w w' := by
  have hq0 := hq
  obtain ⟨bl, ol, cl, pf, cf, pm, cm, p, cap, b, off, cb, rfl, hB, hL⟩ := hq.shape
  have ok := hA.ok
  have hS := ok.2.1
  have hU := used_le ok T
  have ru0 := fun W (g : Bel w W) => rused _ P T W (hq0.bel g) hS (by omega)
  clear hL hq hq0
  obtain ⟨pa, rfl⟩ := hA.ptr
  have hb := (Bel.refl w).alloc (.cells #[.slice (some ⟨bl, ol, none⟩) P.S cl, .slice pf P.T cf, .slice pm P.T cm, .int .i64 (P.W : Nat), .slice p P.n cap, .slice (some ⟨b, off, none⟩) P.S cb] 33)
  have hz := heap_alloc_new w (.cells #[.slice (some ⟨bl, ol, none⟩) P.S cl, .slice pf P.T cf, .slice pm P.T cm, .int .i64 (P.W : Nat), .slice p P.n cap, .slice (some ⟨b, off, none⟩) P.S cb] 33)
  have qt := fun W (g : Bel w W) => qa_taken _ pl lo hi P T W (hA.bel g) (Nat.le_trans hh g.size) (ht.bel g)
  have hcB := fun j (hj : j < P.S) => cell_bel hb (hB j hj)
  have hct := fun k => Pl.cnt_le T k
  clear hB
  generalize hSS : P.S = S at *
  generalize P.T = TT at *
  generalize P.n = nn at *
  generalize (P.W : Int) = V at *
  obtain ⟨W0, hW0⟩ : ∃ W, w.alloc (.cells #[.slice (some ⟨bl, ol, none⟩) S cl, .slice pf TT cf, .slice pm TT cm, .int .i64 V, .slice p nn cap, .slice (some ⟨b, off, none⟩) S cb] 33) = W := ⟨_, rfl⟩
  rw [hW0] at hb hz
  simp only [hW0] at hcB
  obtain ⟨⟨k0, k1, k2, k3, k4, k5⟩, _⟩ := box6 hz
  go_enter Tryd.func11, Tryd.ntmps11
  go_upto_region 1 with fail
  (try rw [hW0])
  clear hW0
  go_wp2_with (go_at_call 13; refine (qt _ hb).mono ?_; rintro e w1 ⟨⟨r, rfl, rb, rg, rca, rfl, hR, hrb, hrg⟩, hg1⟩)
  have h1 := hb.trans hg1
  have hz1 := heap_bel hg1 hz
  have hcB1 := fun j (hj : j < S) => cell_bel hg1 (hcB j hj)
  have qh := fun W (g : Bel w1 W) i hi' => (qa_has _ pl lo hi P T W (hA.bel (h1.trans g)) (Nat.le_trans hh (h1.trans g).size) (ht.bel (h1.trans g)) i hi').mono fun e w' ⟨x, y⟩ => (⟨x, g.trans y⟩ : _ ∧ Bel w1 w')
  have qu := fun W (g : Bel w1 W) => (qa_used _ pl lo hi P T W (hA.bel (h1.trans g)) (Nat.le_trans hh (h1.trans g).size) (ht.bel (h1.trans g))).mono fun e w' ⟨x, y⟩ => (⟨x, g.trans y⟩ : _ ∧ Bel w1 w')
  have qc := fun W (g : Bel w1 W) => (qa_count _ pl lo hi P T W (hA.bel (h1.trans g)) (Nat.le_trans hh (h1.trans g).size) (ht.bel (h1.trans g))).mono fun e w' ⟨x, y⟩ => (⟨x, g.trans y⟩ : _ ∧ Bel w1 w')
  have ru := fun W (g : Bel w1 W) => (ru0 W (h1.trans g)).mono fun e w' ⟨x, y⟩ => (⟨x, g.trans y⟩ : _ ∧ Bel w1 w')
  have gt := fun W (g : Bel w1 W) (k : Nat) => (bt.get_any (k : Nat) W (hR.bel g)).mono fun e w' ⟨x, y⟩ => (⟨x, y ▸ g⟩ : e = Ending.returned (.bool (bt.getB S T (k : Nat))) ∧ Bel w1 w')
  have ln := fun W (g : Bel w1 W) => (bt.len_any W (hR.bel g).hdr).mono fun e w' ⟨x, y⟩ => (⟨x, y ▸ g⟩ : e = Ending.returned (.int .i64 (S : Nat)) ∧ Bel w1 w')
  rw [hSS] at qh qu qc
  have g0 := Bel.refl w1
  have hid := Lib.hid (And.intro hcB1 (And.intro hz1 h1))
  have h0S : 0 < S := by omega
  clear hcB1 hz1 hcB hz hb hg1 hA hh ht hR ru0 qt k0 k1 k2 k3 k4 k5 hrb hrg
  go_loopw [6, 7] (fun m i wr => ∃ k : Nat, k ≤ S ∧ i = .int .i64 (k : Nat) ∧ m = .int .i64 (Pl.cnt T k : Nat) ∧ Bel w1 wr) (fun _ i _ => S - (intOf i).toNat)
  case atStart => exact ⟨0, Nat.zero_le _, rfl, rfl, g0⟩
  case round =>
    obtain ⟨k, hk, rfl, rfl, hbr⟩ := hrel
    by_cases ck : k < S
    · have kI : (k : Int) < (S : Int) := by omega
      have kz : (0 : Int) ≤ (k : Int) := by omega
      have kq := fun W (g : Bel w1 W) => keepA hid.out.2.1 (hid.out.1 k ck) g
      have qh1 := fun W g => qh W g (k : Nat) ⟨by omega, by omega⟩
      have gt1 := fun W g => gt W g k
      have cS : Pl.cnt T (k + 1) = Pl.cnt T k + if T k = true then 1 else 0 := rfl
      have ck1 := hct k
      simp only [getB_at ck] at qh1 gt1
      have hidc := Lib.hid cS
      clear cS
      generalize Pl.cnt T k = C at *
      obtain ⟨_, ⟨k0, k1, k2, k3, k4, k5⟩, kc⟩ := kq _ hbr
      cases hT : T k
      · rw [hT] at kc
        simp only [hT] at qh1 gt1 kq
        go_upto_region 6 with fail
        go_region_held3 (fun W => Bel w1 W ∧ (W.cell? ⟨w.heap.size, 0, none⟩ = some (.slice (some ⟨bl, ol, none⟩) S cl) ∧ W.cell? ⟨w.heap.size, 1, none⟩ = some (.slice pf TT cf) ∧ W.cell? ⟨w.heap.size, 2, none⟩ = some (.slice pm TT cm) ∧ W.cell? ⟨w.heap.size, 3, none⟩ = some (.int .i64 V) ∧ W.cell? ⟨w.heap.size, 4, none⟩ = some (.slice p nn cap) ∧ W.cell? ⟨w.heap.size, 5, none⟩ = some (.slice (some ⟨b, off, none⟩) S cb)) ∧ W.cell? ⟨b, off + k, none⟩ = some (.bool false))
          (first | with_reducible exact kq _ (by assumption) | with_reducible exact kq _ (Bel.drew (by assumption)))
          (first
            | (go_at_call 16; (with_reducible refine (qh1 _ (by first | assumption | exact Bel.drew (by assumption))).mono ?_); rintro e w2 ⟨rfl, hg2⟩)
            | (go_at_call 15; (with_reducible refine (gt1 _ (by first | assumption | exact Bel.drew (by assumption))).mono ?_); rintro e w3 ⟨rfl, hg3⟩))
        have cc := kq _ hg3
        obtain ⟨_, ⟨k0, k1, k2, k3, k4, k5⟩, kc⟩ := cc
        go_wp2
        go_roundw
        case rel => exact ⟨k + 1, by omega, by go_num, by rw [hidc.out, hT]; go_num, hg3⟩
        case measure => simp only [intOf]; omega
      · rw [hT] at kc
        simp only [hT] at qh1 gt1 kq
        go_upto_region 6 with fail
        go_region_held3 (fun W => Bel w1 W ∧ (W.cell? ⟨w.heap.size, 0, none⟩ = some (.slice (some ⟨bl, ol, none⟩) S cl) ∧ W.cell? ⟨w.heap.size, 1, none⟩ = some (.slice pf TT cf) ∧ W.cell? ⟨w.heap.size, 2, none⟩ = some (.slice pm TT cm) ∧ W.cell? ⟨w.heap.size, 3, none⟩ = some (.int .i64 V) ∧ W.cell? ⟨w.heap.size, 4, none⟩ = some (.slice p nn cap) ∧ W.cell? ⟨w.heap.size, 5, none⟩ = some (.slice (some ⟨b, off, none⟩) S cb)) ∧ W.cell? ⟨b, off + k, none⟩ = some (.bool true))
          (first | with_reducible exact kq _ (by assumption) | with_reducible exact kq _ (Bel.drew (by assumption)))
          (first
            | (go_at_call 16; (with_reducible refine (qh1 _ (by first | assumption | exact Bel.drew (by assumption))).mono ?_); rintro e w2 ⟨rfl, hg2⟩)
            | (go_at_call 15; (with_reducible refine (gt1 _ (by first | assumption | exact Bel.drew (by assumption))).mono ?_); rintro e w3 ⟨rfl, hg3⟩))
        have cc := kq _ hg3
        obtain ⟨_, ⟨k0, k1, k2, k3, k4, k5⟩, kc⟩ := cc
        go_wp2
        go_roundw
        case rel => exact ⟨k + 1, by omega, by go_num, by rw [hidc.out, hT]; go_num, hg3⟩
        case measure => simp only [intOf]; omega
    · obtain rfl : k = S := by omega
      have kq := fun W (g : Bel w1 W) => keepA hid.out.2.1 (hid.out.1 0 h0S) g
      have h1m := fun W g => qh W g (-1) ⟨by omega, by omega⟩
      have hSm := fun W g => qh W g (k : Nat) ⟨by omega, by omega⟩
      simp only [getB_no (n := k) (f := T) (i := -1) (Or.inl (by omega)), getB_no (n := k) (f := T) (i := (k : Nat)) (Or.inr (by omega))] at h1m hSm
      obtain ⟨_, ⟨k0, k1, k2, k3, k4, k5⟩, kc⟩ := kq _ hbr
      go_upto_region 10 with fail
      go_region_held3 (fun W => Bel w1 W ∧ (W.cell? ⟨w.heap.size, 0, none⟩ = some (.slice (some ⟨bl, ol, none⟩) k cl) ∧ W.cell? ⟨w.heap.size, 1, none⟩ = some (.slice pf TT cf) ∧ W.cell? ⟨w.heap.size, 2, none⟩ = some (.slice pm TT cm) ∧ W.cell? ⟨w.heap.size, 3, none⟩ = some (.int .i64 V) ∧ W.cell? ⟨w.heap.size, 4, none⟩ = some (.slice p nn cap) ∧ W.cell? ⟨w.heap.size, 5, none⟩ = some (.slice (some ⟨b, off, none⟩) k cb)) ∧ W.cell? ⟨b, off + 0, none⟩ = some (.bool (T 0)))
        (first | with_reducible exact kq _ (by assumption) | with_reducible exact kq _ (Bel.drew (by assumption)))
        (first
          | (go_at_call 21; (with_reducible refine (ln _ (by first | assumption | exact Bel.drew (by assumption))).mono ?_); rintro e w2 ⟨rfl, hg2⟩)
          | (go_at_call 12; (with_reducible refine (qu _ (by first | assumption | exact Bel.drew (by assumption))).mono ?_); rintro e w3 ⟨rfl, hg3⟩)
          | (go_at_call 36; (with_reducible refine (ru _ (by first | assumption | exact Bel.drew (by assumption))).mono ?_); rintro e w4 ⟨rfl, hg4⟩)
          | (go_at_call 25; (with_reducible refine (qc _ (by first | assumption | exact Bel.drew (by assumption))).mono ?_); rintro e w5 ⟨rfl, hg5⟩)
          | (go_at_call 16; (with_reducible refine (h1m _ (by first | assumption | exact Bel.drew (by assumption))).mono ?_); rintro e w6 ⟨rfl, hg6⟩)
          | (go_at_call 16; (with_reducible refine (hSm _ (by first | assumption | exact Bel.drew (by assumption))).mono ?_); rintro e w7 ⟨rfl, hg7⟩))
      go_wp2
      go_ret
      exact ⟨by simp, Bel.trans hid.out.2.2 hg7⟩

end Go.Proofs.YtjgjomojcocegaaDoor
