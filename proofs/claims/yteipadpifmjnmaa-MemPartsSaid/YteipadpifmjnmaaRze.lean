/- Zero of the document's memories. -/
import Derived.Test.YteipadpifmjnmaaRsz
namespace Go.Proofs.Yteipadpifmjnmaa
open Go.ChangeShapes Go.WideShapes Go.ChangeAt Go.RowKit Go.Deep
set_option linter.unusedVariables false

theorem zeroE_ok {R : List (List Nat)} {t a n : Int} (h : zeroE R t a n = 0) : ∃ (t' a' n' : Nat) (l : List Nat), t = t' ∧ a = a' ∧ n = n' ∧ R[t']? = some l ∧ R.getD t' [] = l ∧ a' + n' ≤ l.length := by
  unfold zeroE at h
  split at h
  · cases h
  · split at h
    · cases h
    · rename_i h1 h2
      have e1 : t.toNat < R.length := by omega
      have e2 : R.getD t.toNat [] = R[t.toNat] := by rw [List.getD_eq_getElem?_getD, List.getElem?_eq_getElem e1]; rfl
      rw [e2] at h2
      exact ⟨t.toNat, a.toNat, n.toNat, R[t.toNat], by omega, by omega, by omega, List.getElem?_eq_getElem e1, e2, by omega⟩
theorem wipe_at {R : List (List Nat)} {t : Nat} {l : List Nat} (a : Nat) (h : R[t]? = some l) (n : Nat) : ∃ k, (wipe R t a n)[t]? = some k ∧ k.length = l.length := by
  have hlt := (List.getElem?_eq_some_iff.1 h).1
  have hl2 : t < (wipe R t a n).length := by rw [wipe_len]; exact hlt
  refine ⟨(wipe R t a n)[t], List.getElem?_eq_getElem hl2, ?_⟩
  have e := wipe_row R t a t n
  rw [List.getD_eq_getElem?_getD, List.getElem?_eq_getElem hl2, List.getD_eq_getElem?_getD, h] at e
  exact e

/-- the document's memory in the box that it is in -/
theorem rs_boxes {X : Nat → Prop} {w : World} {v : Value} {R : List (List Nat)} (h : Rs X w v R) : Rs (fun b => X b ∨ b = w.heap.size ∨ b = w.heap.size + 1) w v R := h.old.less fun k hk => by
  rcases hk with hk | hk | hk
  · exact Or.inl hk
  · exact Or.inr (by omega)
  · exact Or.inr (by omega)

set_option maxHeartbeats 4000000 in
set_option maxRecDepth 100000 in
theorem rzero_any (X : Nat → Prop) (v : Value) (R : List (List Nat)) (t a n : Int) (w : World) (h : IsRm X w v R) (hX : Till X w) (ok : RmOk R) :
    Calls Try.prog 30 #[v, .int .i64 t, .int .i64 a, .int .i64 n] w fun e w' => (∃ v', e = .returned (.tuple #[v', .int .i64 (zeroE R t a n)]) ∧ IsRm X w' v' (zeroR R t a n)) ∧ Bel w w' := by
  have hI := h
  obtain ⟨rv, rfl, hR⟩ := h
  obtain ⟨p, cap, rfl, bd⟩ := hR.slice
  have b2 := ((Bel.refl w).alloc (.cells #[.slice p R.length cap] 36)).alloc (.cells #[.slice none 0 0] 36)
  obtain ⟨m0, m1, m2⟩ := two_boxes w (.cells #[.slice p R.length cap] 36) (.cells #[.slice none 0 0] 36)
  obtain ⟨fz0, cx0, W5, hW5, hbx5, cx5, hE5⟩ := box_store (x := .slice p R.length cap) m1
  have hid := Lib.hid (And.intro hX (And.intro ok (And.intro b2 (And.intro (rs_boxes hR) hI))))
  have hid5 := Lib.hid (And.intro hbx5 hE5)
  have hm := Lib.hid (And.intro m0 (And.intro m1 m2))
  have c0 := cell_of_row _ _ 0 _ _ (0, 0) m0
  -- the end of a refused call
  have fin : IsRm X W5 (.agg #[.slice p R.length cap]) R ∧ Bel w W5 := by
    have hb5 : Bel w W5 := Below.trans b2 (hE5.below (fun x hx => by omega) (by omega))
    exact ⟨⟨_, rfl, (((rs_boxes hR).bel b2).exc (hE5.mono fun k hk => Or.inr (Or.inr hk))).less fun k hk => Or.inl hk⟩, hb5⟩
  have hfin := Lib.hid fin
  clear hX ok b2 hI m0 m1 m2 hbx5 hE5 fin
  have run2 : ∀ (E : Int), zeroE R t a n = E → E ≠ 0 → zeroR R t a n = R := fun E e h => if_neg (by rw [e]; exact h)
  by_cases t1 : t < 0
  · have eE : zeroE R t a n = 2 := if_pos (Or.inl t1)
    rw [run2 _ eE (by decide), eE]
    clear eE run2 hid
    generalize R.length = m at *
    go_enter Try.func30, Try.ntmps30
    go_wp2
    (try simp only [Exit.inBlock, Exit.then])
    refine bodyPost_ret (results_cell_row2 rfl _ _ _ 36 _ (0, 0) _ rfl hid5.out.1 Try.underlying36 rfl info_rm) rfl ?_
    exact ⟨⟨_, rfl, hfin.out.1⟩, hfin.out.2⟩
  · by_cases t2 : (R.length : Int) ≤ t
    · have eE : zeroE R t a n = 2 := if_pos (Or.inr t2)
      rw [run2 _ eE (by decide), eE]
      have d1 : decide (t < 0) = false := decide_eq_false t1
      clear eE run2 hid t1
      generalize R.length = m at *
      go_enter Try.func30, Try.ntmps30
      go_wp2
      (try simp only [Exit.inBlock, Exit.then])
      refine bodyPost_ret (results_cell_row2 rfl _ _ _ 36 _ (0, 0) _ rfl hid5.out.1 Try.underlying36 rfl info_rm) rfl ?_
      exact ⟨⟨_, rfl, hfin.out.1⟩, hfin.out.2⟩
    · obtain ⟨t', rfl⟩ : ∃ t' : Nat, t = t' := ⟨t.toNat, by omega⟩
      have ht : t' < R.length := by omega
      have hl : R[t']? = some R[t'] := List.getElem?_eq_getElem ht
      obtain ⟨b, off, cap', lv, ev, j1, j2, j3, j4, c, hw⟩ := hR.at hl
      injection ev with ev1 _ ev3
      subst ev1; subst ev3
      obtain ⟨pl, cl, rfl, bdl⟩ := hw.slice
      have el : R.getD t' [] = R[t'] := by rw [List.getD_eq_getElem?_getD, hl]; rfl
      have e0 : zeroE R t' a n = if a < 0 ∨ n < 0 ∨ ((R[t']).length : Int) < a ∨ ((R[t']).length : Int) - a < n then 4 else 0 := by
        unfold zeroE
        rw [if_neg (by omega), Int.toNat_natCast, el]
      have lb := hid.out.2.1.2 _ _ hl
      have d1 : decide ((t' : Int) < 0) = false := decide_eq_false t1
      have d2 : decide ((R.length : Int) ≤ (t' : Int)) = false := decide_eq_false t2
      have kI : (t' : Int) < (R.length : Int) := by omega
      have kz : (0 : Int) ≤ (t' : Int) := by omega
      have C1 := cell_bel hid.out.2.2.1 c
      clear t1 t2 hR hw c
      by_cases bad : a < 0 ∨ n < 0 ∨ ((R[t']).length : Int) < a ∨ ((R[t']).length : Int) - a < n
      · have eE : zeroE R t' a n = 4 := by rw [e0, if_pos bad]
        rw [run2 _ eE (by decide), eE]
        clear eE run2 hid e0 el hl
        obtain ⟨ln, hln⟩ : ∃ ln, (R[t']).length = ln := ⟨_, rfl⟩
        rw [hln] at bad C1 bdl lb
        clear hln ht
        generalize R.length = m at *
        by_cases a1 : a < 0
        · clear bad
          go_enter Try.func30, Try.ntmps30
          go_wp2
          (try simp only [Exit.inBlock, Exit.then])
          refine bodyPost_ret (results_cell_row2 rfl _ _ _ 36 _ (0, 0) _ rfl hid5.out.1 Try.underlying36 rfl info_rm) rfl ?_
          exact ⟨⟨_, rfl, hfin.out.1⟩, hfin.out.2⟩
        · have d3 : decide (a < 0) = false := decide_eq_false a1
          by_cases n1 : n < 0
          · clear bad a1
            go_enter Try.func30, Try.ntmps30
            go_wp2
            (try simp only [Exit.inBlock, Exit.then])
            refine bodyPost_ret (results_cell_row2 rfl _ _ _ 36 _ (0, 0) _ rfl hid5.out.1 Try.underlying36 rfl info_rm) rfl ?_
            exact ⟨⟨_, rfl, hfin.out.1⟩, hfin.out.2⟩
          · have d4 : decide (n < 0) = false := decide_eq_false n1
            by_cases a2 : (ln : Int) < a
            · clear bad a1 n1
              go_enter Try.func30, Try.ntmps30
              go_wp2
              (try simp only [Exit.inBlock, Exit.then])
              refine bodyPost_ret (results_cell_row2 rfl _ _ _ 36 _ (0, 0) _ rfl hid5.out.1 Try.underlying36 rfl info_rm) rfl ?_
              exact ⟨⟨_, rfl, hfin.out.1⟩, hfin.out.2⟩
            · have d5 : decide ((ln : Int) < a) = false := decide_eq_false a2
              have n2 : (ln : Int) - a < n := by omega
              have a0 : 0 ≤ a := by omega
              have a3 : a ≤ (ln : Int) := by omega
              clear bad a1 n1 a2
              go_enter Try.func30, Try.ntmps30
              go_wp2
              (try simp only [Exit.inBlock, Exit.then])
              refine bodyPost_ret (results_cell_row2 rfl _ _ _ 36 _ (0, 0) _ rfl hid5.out.1 Try.underlying36 rfl info_rm) rfl ?_
              exact ⟨⟨_, rfl, hfin.out.1⟩, hfin.out.2⟩
      · have eE : zeroE R t' a n = 0 := by rw [e0, if_neg bad]
        obtain ⟨a', rfl⟩ : ∃ a' : Nat, a = a' := ⟨a.toNat, by omega⟩
        obtain ⟨n', rfl⟩ : ∃ n' : Nat, n = n' := ⟨n.toNat, by omega⟩
        have eS : zeroR R t' a' n' = wipe R t' a' n' := by unfold zeroR; rw [if_pos eE, Int.toNat_natCast, Int.toNat_natCast, Int.toNat_natCast]
        rw [eE, eS]
        have hidr := Lib.hid hl
        clear eE eS run2 hfin e0 el hl
        obtain ⟨ln, hln⟩ : ∃ ln, (R[t']).length = ln := ⟨_, rfl⟩
        rw [hln] at bad C1 bdl lb
        have hidn := Lib.hid hln
        clear hln
        have al : a' + n' ≤ ln := by omega
        have d3 : decide ((a' : Int) < 0) = false := decide_eq_false (by omega)
        have d4 : decide ((n' : Int) < 0) = false := decide_eq_false (by omega)
        have d5 : decide ((ln : Int) < (a' : Int)) = false := decide_eq_false (by omega)
        have d6 : decide ((ln : Int) - (a' : Int) < (n' : Int)) = false := decide_eq_false (by omega)
        clear bad
        obtain ⟨m, hmm⟩ : ∃ m, R.length = m := ⟨_, rfl⟩
        rw [hmm] at d2 kI C1 bd hid hid5 hm c0 hW5 cx5 j1 ⊢
        clear hmm
        have g0 := Exc.mono (Y := fun k => k = w.heap.size) (Bel.exc (X := fun _ => False) (Bel.refl ((w.alloc (.cells #[.slice (some ⟨b, off, none⟩) m cap] 36)).alloc (.cells #[.slice none 0 0] 36)))) (fun _ x => x.elim)
        have ho0 := hid.out.2.2.2.1.bel hid.out.2.2.1
        go_enter Try.func30, Try.ntmps30
        go_wp2
        go_loopw [10] (fun i wr => ∃ (k : Nat) (rvk : Value), k ≤ n' ∧ i = .int .i64 (k : Nat) ∧ wr.heap[w.heap.size]? = some (.cells #[rvk] 36 (0, 0)) ∧ Rs (fun b => X b ∨ b = w.heap.size ∨ b = w.heap.size + 1) wr rvk (wipe R t' a' k) ∧ Exc (fun k => k = w.heap.size) ((w.alloc (.cells #[.slice (some ⟨b, off, none⟩) m cap] 36)).alloc (.cells #[.slice none 0 0] 36)) wr) (fun i _ => n' - (intOf i).toNat)
        case atStart => exact ⟨0, _, Nat.zero_le _, rfl, hm.out.1, ho0, g0⟩
        case round =>
          obtain ⟨k, rvk, hk, rfl, hbx, hRk, hEk⟩ := hrel
          obtain ⟨pk, ck, rfl, _⟩ := hRk.slice
          have cb := cell_of_row _ _ 0 _ _ (0, 0) hbx
          by_cases ckn : k < n'
          · have hXx : Till (fun b => X b ∨ b = w.heap.size ∨ b = w.heap.size + 1) wr := fun q hq => by
              have h1 := hEk.size
              have h2 := hm.out.2.2
              rcases hq with hq | hq | hq
              · have := hid.out.1 q hq; omega
              · omega
              · omega
            obtain ⟨lk, hlk, ell⟩ := wipe_at a' hidr.out k
            have okk := hid.out.2.1.wipe t' a' k
            have wt := with_any (fun b => X b ∨ b = w.heap.size ∨ b = w.heap.size + 1) _ (wipe R t' a' k) t' (a' + k) 0 lk wr hRk hXx hlk (by rw [ell, hidn.out]; omega) okk.1 (okk.2 _ _ hlk)
            rw [Int.natCast_add] at wt
            have hidk := Lib.hid (And.intro hEk hXx)
            clear hRk hEk hXx hlk ell okk
            go_wp2_with (go_at_call 50; refine wt.mono ?_; rintro e w4 ⟨⟨v', rfl, rv', rfl, hR'⟩, hg2⟩
                         obtain ⟨p', cap', rfl, bd'⟩ := hR'.slice
                         obtain ⟨fz, cx3, W6, hW6, hbx6, cx6, hE6⟩ := box_store (x := .slice p' (setR (wipe R t' a' k) t' (a' + k) 0).length cap') (heap_bel hg2 hbx)
                         have hid6 := Lib.hid (And.intro hR' (And.intro hbx6 (And.intro hE6 hg2)))
                         clear hR' hbx6 hE6 hg2)
            go_roundw
            case rel =>
              obtain ⟨hR', hbx6, hE6, hg2⟩ := hid6.out
              refine ⟨k + 1, _, by omega, by go_num, hbx6, ?_, Exc.trans hidk.out.1 (Exc.trans hg2.exc hE6)⟩
              exact hR'.exc (hE6.mono fun q hq => Or.inr (Or.inl hq))
            case measure => simp only [intOf]; omega
          · obtain rfl : k = n' := by omega
            have hb1 : wr.heap[w.heap.size + 1]? = some (.cells #[.slice none 0 0] 36 (0, 0)) := (hEk.block _ (by rw [hm.out.2.2]; omega) (by omega)).trans hm.out.2.1
            obtain ⟨fz, cx3, W6, hW6, hbx6, cx6, hE6⟩ := box_store (x := .slice pk (wipe R t' a' k).length ck) hb1
            have hid6 := Lib.hid (And.intro hRk (And.intro hbx6 (And.intro hE6 hEk)))
            clear hRk hbx6 hE6 hEk hb1
            go_wp2
            (try simp only [Exit.inBlock, Exit.then])
            refine bodyPost_ret (results_cell_row2 rfl _ _ _ 36 _ (0, 0) _ rfl hid6.out.2.1 Try.underlying36 rfl info_rm) rfl ?_
            obtain ⟨hRk, hbx6, hE6, hEk⟩ := hid6.out
            have s2 := hm.out.2.2
            have s3 := hEk.size
            refine ⟨⟨_, rfl, _, rfl, (hRk.exc (hE6.mono fun q hq => Or.inr (Or.inr hq))).less fun q hq => Or.inl hq⟩, ?_⟩
            exact Below.trans hid.out.2.2.1 (Below.trans (hEk.below (fun x hx => by omega) (by omega)) (hE6.below (fun x hx => by omega) (by omega)))

end Go.Proofs.Yteipadpifmjnmaa
