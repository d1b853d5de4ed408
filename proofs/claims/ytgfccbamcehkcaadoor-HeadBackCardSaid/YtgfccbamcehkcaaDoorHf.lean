/- Field of the program; Put, Get, Need, Field of the document; the calls that the document fixes. -/
import Derived.Test.YtgfccbamcehkcaaDoorHg
namespace Go.Proofs.YtgfccbamcehkcaaDoor
open Go.ChangeShapes Go.WideShapes Go.ChangeAt Go.RowKit

theorem field_out {c r n i : Int} (ok : okH c r n = true) (h : i < 0 ∨ r + n ≤ i) : fieldR c r n i = false ∧ fieldE c r n i = 110 := by
  have e : inF c r n i = false := by unfold inF; rw [ok, Bool.true_and]; exact decide_eq_false fun x => by omega
  unfold fieldR fieldE
  rw [e, ok]
  exact ⟨rfl, rfl⟩
theorem field_in {c r n i : Int} (ok : okH c r n = true) (h0 : 0 ≤ i) (h1 : i < r + n) : fieldR c r n i = decide (i < r) ∧ fieldE c r n i = 0 := by
  have e : inF c r n i = true := by unfold inF; rw [ok, Bool.true_and]; exact decide_eq_true ⟨h0, h1⟩
  unfold fieldR fieldE
  rw [e, ok, Bool.true_and]
  exact ⟨rfl, rfl⟩
theorem field_no {c r n i : Int} (ok : okH c r n = false) : fieldR c r n i = false ∧ fieldE c r n i = 2 := by
  unfold fieldR fieldE inF
  rw [ok]
  exact ⟨rfl, rfl⟩

/-- Field of the program -/
theorem field_h (c r n i : Int) (w : World) (hc : i64b c) (hr : i64b r) (hn : i64b n) :
    Calls Tryd.prog 12 #[.agg #[.int .i64 c, .int .i64 r, .int .i64 n], .int .i64 i] w fun e w' => e = .returned (.tuple #[.bool (fieldR c r n i), .int .i64 (fieldE c r n i)]) ∧ Bel w w' := by
  have hb0 : ∀ o, Bel w (w.alloc o) := fun o => (Bel.refl w).alloc o
  have hb := hb0 (.cells #[.int .i64 c, .int .i64 r, .int .i64 n] 23)
  clear hb0
  have va := valid_h c r n (w.alloc (.cells #[.int .i64 c, .int .i64 r, .int .i64 n] 23)) hc hr hn
  cases ok : okH c r n
  · obtain ⟨e1, e2⟩ := field_no (i := i) ok
    rw [e1, e2]
    rw [ok] at va
    clear hc hr hn ok e1 e2
    go_enter Tryd.func12, Tryd.ntmps12
    go_wp2_with (go_at_call 15; refine va.mono ?_; rintro e w1 ⟨rfl, h⟩)
    go_ret2
    exact ⟨rfl, hb.trans h⟩
  · have ok' := ok
    rw [ok] at va
    have fo := @field_out c r n i ok
    have fi := @field_in c r n i ok
    obtain ⟨C, R, N, rfl, rfl, rfl, h1, h2⟩ := okH_true ok
    have n1 : R ≤ 63 := by omega
    have n2 : N ≤ 63 := by omega
    by_cases a : i < 0
    · obtain ⟨e1, e2⟩ := fo (Or.inl a)
      rw [e1, e2]
      have d : decide (i < 0) = true := decide_eq_true a
      clear hc hr hn ok ok' e1 e2 h2 fo fi
      go_enter Tryd.func12, Tryd.ntmps12
      go_wp2_with (go_at_call 15; refine va.mono ?_; rintro e w1 ⟨rfl, h⟩; obtain ⟨k0, k1, k2, _, _, _⟩ := box3 (box_at h))
      go_ret2
      exact ⟨rfl, hb.trans h⟩
    · obtain ⟨S, hS⟩ : ∃ S : Int, (R : Int) + (N : Int) = S := ⟨_, rfl⟩
      rw [hS] at fo fi
      have d : decide (i < 0) = false := decide_eq_false a
      by_cases b : S ≤ i
      · obtain ⟨e1, e2⟩ := fo (Or.inr b)
        rw [e1, e2]
        have d2 : decide (S ≤ i) = true := decide_eq_true b
        clear hc hr hn ok ok' e1 e2 h2 fo fi
        go_enter Tryd.func12, Tryd.ntmps12
        go_wp2_with (go_at_call 15; refine va.mono ?_; rintro e w1 ⟨rfl, h⟩; obtain ⟨k0, k1, k2, _, _, _⟩ := box3 (box_at h))
        go_ret2
        exact ⟨rfl, hb.trans h⟩
      · obtain ⟨e1, e2⟩ := fi (by omega) (by omega)
        rw [e1, e2]
        have d2 : decide (S ≤ i) = false := decide_eq_false b
        clear hc hr hn ok ok' e1 e2 h2 fo fi
        go_enter Tryd.func12, Tryd.ntmps12
        go_wp2_with (go_at_call 15; refine va.mono ?_; rintro e w1 ⟨rfl, h⟩; obtain ⟨k0, k1, k2, _, _, _⟩ := box3 (box_at h))
        go_ret2
        exact ⟨rfl, hb.trans h⟩

/-! The document's side. -/
theorem rput_h (c r n : Int) (w : World) (hc : i64b c) (hr : i64b r) (hn : i64b n) :
    Calls Tryd.prog 7 #[.agg #[.int .i64 c, .int .i64 r, .int .i64 n]] w fun e w' => e = .returned (.tuple #[.int .u64 (putR c r n : Nat), .int .i64 (putE c r n)]) ∧ Bel w w' := by
  have hb0 : ∀ o, Bel w (w.alloc o) := fun o => (Bel.refl w).alloc o
  have hb := hb0 (.cells #[.int .i64 c, .int .i64 r, .int .i64 n] 23)
  clear hb0
  have va := may_h c r n (w.alloc (.cells #[.int .i64 c, .int .i64 r, .int .i64 n] 23)) hc hr hn
  cases ok : okH c r n
  · rw [putR_no ok, putE_no ok]
    rw [ok] at va
    clear hc hr hn ok
    go_enter Tryd.func7, Tryd.ntmps7
    go_wp2_with (go_at_call 17; refine va.mono ?_; rintro e w1 ⟨rfl, h⟩)
    go_ret2
    exact ⟨rfl, hb.trans h⟩
  · obtain ⟨C, R, N, rfl, rfl, rfl, h1, h2⟩ := okH_true ok
    rw [putR_ok h1 h2, putE_ok ok]
    rw [ok] at va
    have eA : wordN C R N = 14339461213547659264 + C * 281474976710656 + R * 4294967296 + N * 65536 := rfl
    generalize wordN C R N = A at *
    have n1 : R ≤ 63 := by omega
    have n2 : N ≤ 63 := by omega
    have hA := Lib.hid eA
    clear hc hr hn ok h2 eA
    go_enter Tryd.func7, Tryd.ntmps7
    go_wp2_with (go_at_call 17; refine va.mono ?_; rintro e w1 ⟨rfl, h⟩; obtain ⟨k0, k1, k2, _, _, _⟩ := box3 (box_at h))
    go_ret2
    have e : (14339461213547659264 + (C : Int) * 281474976710656 + (R : Int) * 4294967296 + (N : Int) * 65536) = (A : Int) := by have := hA.out; omega
    rw [← e]
    exact ⟨rfl, hb.trans h⟩

theorem rneed_h (c r n : Int) (w : World) (hc : i64b c) (hr : i64b r) (hn : i64b n) :
    Calls Tryd.prog 11 #[.agg #[.int .i64 c, .int .i64 r, .int .i64 n]] w fun e w' => e = .returned (.tuple #[.int .i64 (needR c r n), .int .i64 (putE c r n)]) ∧ Bel w w' := by
  have hb0 : ∀ o, Bel w (w.alloc o) := fun o => (Bel.refl w).alloc o
  have hb := hb0 (.cells #[.int .i64 c, .int .i64 r, .int .i64 n] 23)
  clear hb0
  have va := may_h c r n (w.alloc (.cells #[.int .i64 c, .int .i64 r, .int .i64 n] 23)) hc hr hn
  cases ok : okH c r n
  · have e1 : needR c r n = 0 := by unfold needR; rw [ok]; rfl
    rw [e1, putE_no ok]
    rw [ok] at va
    clear hc hr hn ok e1
    go_enter Tryd.func11, Tryd.ntmps11
    go_wp2_with (go_at_call 17; refine va.mono ?_; rintro e w1 ⟨rfl, h⟩)
    go_ret2
    exact ⟨rfl, hb.trans h⟩
  · have e1 : needR c r n = 1 + r + n := by unfold needR; rw [ok]; show r + n + 1 = _; omega
    obtain ⟨C, R, N, rfl, rfl, rfl, h1, h2⟩ := okH_true ok
    rw [e1, putE_ok ok]
    rw [ok] at va
    have n1 : R ≤ 63 := by omega
    have n2 : N ≤ 63 := by omega
    clear hc hr hn ok e1 h2
    go_enter Tryd.func11, Tryd.ntmps11
    go_wp2_with (go_at_call 17; refine va.mono ?_; rintro e w1 ⟨rfl, h⟩; obtain ⟨k0, k1, k2, _, _, _⟩ := box3 (box_at h))
    go_ret2
    exact ⟨rfl, hb.trans h⟩

/-- Field of the document -/
theorem rfield_h (c r n i : Int) (w : World) (hc : i64b c) (hr : i64b r) (hn : i64b n) :
    Calls Tryd.prog 13 #[.agg #[.int .i64 c, .int .i64 r, .int .i64 n], .int .i64 i] w fun e w' => e = .returned (.tuple #[.bool (fieldR c r n i), .int .i64 (fieldE c r n i)]) ∧ Bel w w' := by
  have hb0 : ∀ o, Bel w (w.alloc o) := fun o => (Bel.refl w).alloc o
  have hb := hb0 (.cells #[.int .i64 c, .int .i64 r, .int .i64 n] 23)
  clear hb0
  have va := may_h c r n (w.alloc (.cells #[.int .i64 c, .int .i64 r, .int .i64 n] 23)) hc hr hn
  cases ok : okH c r n
  · obtain ⟨e1, e2⟩ := field_no (i := i) ok
    rw [e1, e2]
    rw [ok] at va
    clear hc hr hn ok e1 e2
    go_enter Tryd.func13, Tryd.ntmps13
    go_wp2_with (go_at_call 17; refine va.mono ?_; rintro e w1 ⟨rfl, h⟩)
    go_ret2
    exact ⟨rfl, hb.trans h⟩
  · have ok' := ok
    rw [ok] at va
    have fo := @field_out c r n i ok
    have fi := @field_in c r n i ok
    obtain ⟨C, R, N, rfl, rfl, rfl, h1, h2⟩ := okH_true ok
    have n1 : R ≤ 63 := by omega
    have n2 : N ≤ 63 := by omega
    by_cases a : i < 0
    · obtain ⟨e1, e2⟩ := fo (Or.inl a)
      rw [e1, e2]
      have d : decide (i < 0) = true := decide_eq_true a
      clear hc hr hn ok ok' e1 e2 h2 fo fi
      go_enter Tryd.func13, Tryd.ntmps13
      go_wp2_with (go_at_call 17; refine va.mono ?_; rintro e w1 ⟨rfl, h⟩; obtain ⟨k0, k1, k2, _, _, _⟩ := box3 (box_at h))
      go_ret2
      exact ⟨rfl, hb.trans h⟩
    · obtain ⟨S, hS⟩ : ∃ S : Int, (R : Int) + (N : Int) = S := ⟨_, rfl⟩
      rw [hS] at fo fi
      have d : decide (i < 0) = false := decide_eq_false a
      by_cases b : S ≤ i
      · obtain ⟨e1, e2⟩ := fo (Or.inr b)
        rw [e1, e2]
        have d2 : decide (S ≤ i) = true := decide_eq_true b
        clear hc hr hn ok ok' e1 e2 h2 fo fi
        go_enter Tryd.func13, Tryd.ntmps13
        go_wp2_with (go_at_call 17; refine va.mono ?_; rintro e w1 ⟨rfl, h⟩; obtain ⟨k0, k1, k2, _, _, _⟩ := box3 (box_at h))
        go_ret2
        exact ⟨rfl, hb.trans h⟩
      · obtain ⟨e1, e2⟩ := fi (by omega) (by omega)
        rw [e1, e2]
        have d2 : decide (S ≤ i) = false := decide_eq_false b
        clear hc hr hn ok ok' e1 e2 h2 fo fi
        go_enter Tryd.func13, Tryd.ntmps13
        go_wp2_with (go_at_call 17; refine va.mono ?_; rintro e w1 ⟨rfl, h⟩; obtain ⟨k0, k1, k2, _, _, _⟩ := box3 (box_at h))
        go_ret2
        exact ⟨rfl, hb.trans h⟩

theorem rget_h (u : Nat) (w : World) (hu : u < 18446744073709551616) :
    Calls Tryd.prog 9 #[.int .u64 (u : Nat)] w fun e w' => e = .returned (.tuple #[.agg #[.int .i64 (gC u : Nat), .int .i64 (gR u : Nat), .int .i64 (gN u : Nat)], .int .i64 (gE u)]) ∧ Bel w w' := by
  have hb := (Bel.refl w).alloc (.cells #[.int .i64 0, .int .i64 0, .int .i64 0] 23)
  obtain ⟨lc, lr, ln⟩ := parts_lt u
  have x1 : (u : Int) / 281474976710656 % 256 = (cOf u : Nat) := by unfold cOf; omega
  have x2 : (u : Int) / 4294967296 % 65536 = (rOf u : Nat) := by unfold rOf; omega
  have x3 : (u : Int) / 65536 % 65536 = (nOf u : Nat) := by unfold nOf; omega
  have pt := fun W => rput_h (cOf u) (rOf u) (nOf u) W ⟨by omega, by omega⟩ ⟨by omega, by omega⟩ ⟨by omega, by omega⟩
  have gw := get_ways u
  have gn := @g_no u
  have gy := @g_yes u
  generalize gC u = C' at *
  generalize gR u = R' at *
  generalize gN u = N' at *
  generalize gE u = E' at *
  generalize putR (cOf u) (rOf u) (nOf u) = A at *
  generalize putE (cOf u) (rOf u) (nOf u) = E at *
  generalize cOf u = C at *
  generalize rOf u = R at *
  generalize nOf u = N at *
  have tb := two w (.cells #[.int .i64 0, .int .i64 0, .int .i64 0] 23) (.cells #[.int .i64 (C : Nat), .int .i64 (R : Nat), .int .i64 (N : Nat)] 23)
  have bt := bel_two w (.cells #[.int .i64 0, .int .i64 0, .int .i64 0] 23) (.cells #[.int .i64 (C : Nat), .int .i64 (R : Nat), .int .i64 (N : Nat)] 23)
  rcases gw with ⟨_, rfl, rfl, h⟩ | ⟨_, rfl, ne, rfl, h⟩ | ⟨rfl, rfl, h⟩
  · obtain ⟨rfl, rfl, rfl, rfl⟩ := gn h
    clear gn gy h hu
    go_enter Tryd.func9, Tryd.ntmps9
    go_wp2_with (go_at_call 7; refine (pt _).mono ?_; rintro e w2 ⟨rfl, h2⟩; have hx := heap_bel h2 tb.1; obtain ⟨k0, k1, k2, f0, f1, f2⟩ := box3 hx)
    (try simp only [Exit.inBlock, Exit.then])
    refine bodyPost_ret (results_cell_row2 rfl _ _ _ 23 _ (0, 0) _ rfl (three_row hx _ _ _) Tryd.underlying23 rfl info_head) rfl ?_
    exact ⟨rfl, set_bel3 (bt.trans h2) (Nat.le_refl _) _ _ _⟩
  · obtain ⟨rfl, rfl, rfl, rfl⟩ := gn h
    have d : ((A : Int) == (u : Int)) = false := by simp; omega
    have d1 : decide (A = u) = false := decide_eq_false ne
    clear gn gy h hu
    go_enter Tryd.func9, Tryd.ntmps9
    go_wp2_with (go_at_call 7; refine (pt _).mono ?_; rintro e w2 ⟨rfl, h2⟩; have hx := heap_bel h2 tb.1; obtain ⟨k0, k1, k2, f0, f1, f2⟩ := box3 hx)
    (try simp only [Exit.inBlock, Exit.then])
    refine bodyPost_ret (results_cell_row2 rfl _ _ _ 23 _ (0, 0) _ rfl (three_row hx _ _ _) Tryd.underlying23 rfl info_head) rfl ?_
    exact ⟨rfl, set_bel3 (bt.trans h2) (Nat.le_refl _) _ _ _⟩
  · obtain ⟨rfl, rfl, rfl, rfl⟩ := gy h
    clear gn gy h hu
    go_enter Tryd.func9, Tryd.ntmps9
    go_wp2_with (go_at_call 7; refine (pt _).mono ?_; rintro e w2 ⟨rfl, h2⟩; have hx := heap_bel h2 tb.1; obtain ⟨k0, k1, k2, f0, f1, f2⟩ := box3 hx; obtain ⟨l0, l1, l2, _, _, _⟩ := box3 (heap_bel h2 tb.2))
    (try simp only [Exit.inBlock, Exit.then])
    refine bodyPost_ret (results_cell_row2 rfl _ _ _ 23 _ (0, 0) _ rfl (three_row hx _ _ _) Tryd.underlying23 rfl info_head) rfl ?_
    exact ⟨rfl, set_bel3 (bt.trans h2) (Nat.le_refl _) _ _ _⟩

end Go.Proofs.YtgfccbamcehkcaaDoor
