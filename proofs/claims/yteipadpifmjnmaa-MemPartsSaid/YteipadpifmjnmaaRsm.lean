/- Same of words; the size that a statement looks at. -/
import Derived.Test.YteipadpifmjnmaaRal
namespace Go.Proofs.Yteipadpifmjnmaa
open Go.ChangeShapes Go.WideShapes Go.ChangeAt Go.RowKit Go.Deep
set_option linter.unusedVariables false

theorem eq_upto {l k : List Nat} (hl : l.length = k.length) (h : ∀ j, j < l.length → l[j]? = k[j]?) : l = k := by
  apply List.ext_getElem?
  intro j
  by_cases c : j < l.length
  · exact h j c
  · rw [List.getElem?_eq_none (by omega), List.getElem?_eq_none (by omega)]

set_option maxHeartbeats 1000000 in
theorem wsame_any (X Y : Nat → Prop) (a b : Value) (l k : List Nat) (w : World) (ha : Ws X w a l) (hb : Ws Y w b k) :
    Calls Try.prog 18 #[a, b] w fun e w' => e = .returned (.bool (decide (l = k))) ∧ Bel w w' := by
  by_cases c : l.length = k.length
  · rcases ha with ⟨rfl, p, cap, rfl⟩ | ⟨b1, off1, cap1, rfl, hn, hc, hbig, _, hg⟩
    · obtain ⟨q, cap2, rfl, _⟩ := hb.slice
      have e : k = [] := List.length_eq_zero_iff.1 (by simpa using c.symm)
      subst e
      rw [decide_eq_true rfl]
      clear hb
      go_enter Try.func18, Try.ntmps18
      go_wp2
      go_loop [5] (fun i => i = .int .i64 0) (fun _ => 0)
      case atStart => rfl
      case round =>
        obtain rfl := hrel
        go_wp2
        go_ret
        exact ⟨rfl, Bel.refl _⟩
    · rcases hb with ⟨rfl, _⟩ | ⟨b2, off2, cap2, rfl, _, hc2, hbig2, _, hh⟩
      · exact absurd hn (by rw [c]; simp)
      · obtain ⟨R, hR⟩ : ∃ R, decide (l = k) = R := ⟨_, rfl⟩
        rw [hR]
        have hidR := Lib.hid (And.intro hR c)
        have hidc := Lib.hid (And.intro hg hh)
        obtain ⟨n, hln⟩ : ∃ n, l.length = n := ⟨_, rfl⟩
        rw [hln] at c
        have hidn := Lib.hid (And.intro hln c)
        rw [← c] at hc2 ⊢
        rw [hln] at hn hc ⊢
        clear hR hg hh c hln
        go_enter Try.func18, Try.ntmps18
        go_wp2
        go_loopw [5] (fun i wr => ∃ j : Nat, j ≤ n ∧ i = .int .i64 (j : Nat) ∧ (∀ q, q < j → l[q]? = k[q]?) ∧ Bel w wr) (fun i _ => n - (intOf i).toNat)
        case atStart => exact ⟨0, Nat.zero_le _, rfl, fun q hq => absurd hq (Nat.not_lt_zero _), Bel.refl _⟩
        case round =>
          obtain ⟨j, hj, rfl, hall, hbr⟩ := hrel
          by_cases cj : j < n
          · obtain ⟨x, hx⟩ : ∃ x, l[j]? = some x := ⟨l[j]'(by rw [hidn.out.1]; exact cj), List.getElem?_eq_getElem _⟩
            obtain ⟨y, hy⟩ : ∃ y, k[j]? = some y := ⟨k[j]'(by rw [← hidn.out.2]; exact cj), List.getElem?_eq_getElem _⟩
            have c1 := cell_bel hbr (hidc.out.1 j x hx)
            have c2 := cell_bel hbr (hidc.out.2 j y hy)
            have kI : (j : Int) < (n : Int) := by omega
            have k0 : (0 : Int) ≤ (j : Int) := by omega
            by_cases e : x = y
            · subst e
              have hid := Lib.hid (And.intro hall (And.intro (hx.trans hy.symm) hbr))
              clear hall hbr hx hy
              go_wp2
              go_quiet (fail)
              go_wp2
              go_roundw
              case rel => exact ⟨j + 1, by omega, by go_num, fun q hq => by
                by_cases d : q = j
                · rw [d]; exact hid.out.2.1
                · exact hid.out.1 q (by omega), hid.out.2.2.then_drewN _⟩
              case measure => simp only [intOf]; omega
            · have no : decide (l = k) = false := decide_eq_false fun z => by
                subst z
                rw [hx] at hy
                exact e (Option.some.inj hy)
              have hR := hidR.out.1
              rw [no] at hR
              subst hR
              have e2 : ((x : Int) != (y : Int)) = true := by rw [bne_iff_ne]; omega
              have e3 : ¬ ((x : Int) = (y : Int)) := by omega
              have hid := Lib.hid hbr
              clear hall no hx hy e hbr
              go_wp2
              go_quiet (fail)
              go_wp2
              go_ret
              exact ⟨rfl, hid.out.then_drewN _⟩
          · obtain rfl : j = n := by omega
            have hR := hidR.out.1
            rw [decide_eq_true (eq_upto hidR.out.2 (by rw [hidn.out.1]; exact hall))] at hR
            subst hR
            clear hall
            go_wp2
            go_ret
            exact ⟨rfl, hbr⟩
  · rw [decide_eq_false fun z => c (by rw [z])]
    obtain ⟨p1, c1, rfl, _⟩ := ha.slice
    obtain ⟨p2, c2, rfl, _⟩ := hb.slice
    have e2 : ((l.length : Int) != (k.length : Int)) = true := by rw [bne_iff_ne]; omega
    have e3 : ¬ ((l.length : Int) = (k.length : Int)) := by omega
    clear ha hb c
    generalize l.length = n at *
    generalize k.length = m at *
    go_enter Try.func18, Try.ntmps18
    go_wp2
    go_ret
    exact ⟨rfl, Bel.refl _⟩

/-- is a configuration more than a statement looks at? -/
def Cf.great7 (c : Cf) : Prop := ¬ (c.n ≤ 50 ∧ c.m ≤ 50) ∨ 4000 < c.totR
instance (c : Cf) : Decidable c.great7 := by unfold Cf.great7; infer_instance

set_option maxHeartbeats 1000000 in
theorem great_any (v : Value) (c : Cf) (w : World) (h : IsCf w v c) :
    Calls Try.prog 7 #[v] w fun e w' => e = .returned (.bool (decide c.great7)) ∧ Bel w w' := by
  have hI := h
  obtain ⟨vc, vt, rfl, hN, hT⟩ := h
  obtain ⟨p1, c1, rfl, _⟩ := nums_slice hN
  obtain ⟨p2, c2, rfl, _⟩ := tens_slice hT
  clear hN hT
  have hb0 : ∀ o, Bel w (w.alloc o) := fun o => (Bel.refl w).alloc o
  have hb := hb0 (.cells #[.slice p1 c.n c1, .int .i64 c.page, .slice p2 c.m c2, .int .i64 c.wk, .int .i64 c.gr, .int .i64 c.gn] 25)
  clear hb0
  have tt := rtot_any _ c _ (hI.bel hb)
  have sm := fun W (g : Bel (w.alloc (.cells #[.slice p1 c.n c1, .int .i64 c.page, .slice p2 c.m c2, .int .i64 c.wk, .int .i64 c.gr, .int .i64 c.gn] 25)) W) => small_any _ c W (hI.bel (hb.trans g))
  obtain ⟨R, hR⟩ : ∃ R, decide c.great7 = R := ⟨_, rfl⟩
  rw [hR]
  by_cases s : c.n ≤ 50 ∧ c.m ≤ 50
  · simp only [decide_eq_true s] at sm
    have e : decide c.great7 = decide (4000 < c.totR) := decide_eq_decide.2 ⟨fun x => x.resolve_left fun y => y s, Or.inr⟩
    rw [e] at hR
    subst hR
    clear hI s e
    generalize c.totR = T at *
    generalize c.checkC = E at *
    go_enter Try.func7, Try.ntmps7
    go_wp2_with (first
      | (go_at_call 21; refine tt.mono ?_; rintro e w' ⟨rfl, hg⟩; obtain ⟨k0, k1, k2, k3, k4, k5⟩ := cf_at hg)
      | (go_at_call 22; refine (sm _ (by assumption)).mono ?_; rintro e w' ⟨rfl, hg2⟩))
    go_ret
    exact ⟨rfl, hb.trans (hg.trans hg2)⟩
  · simp only [decide_eq_false s] at sm
    have e : decide c.great7 = true := decide_eq_true (Or.inl s)
    rw [e] at hR
    subst hR
    clear hI s e
    generalize c.totR = T at *
    generalize c.checkC = E at *
    go_enter Try.func7, Try.ntmps7
    go_wp2_with (first
      | (go_at_call 21; refine tt.mono ?_; rintro e w' ⟨rfl, hg⟩; obtain ⟨k0, k1, k2, k3, k4, k5⟩ := cf_at hg)
      | (go_at_call 22; refine (sm _ (by assumption)).mono ?_; rintro e w' ⟨rfl, hg2⟩))
    go_ret
    exact ⟨rfl, hb.trans (hg.trans hg2)⟩

end Go.Proofs.Yteipadpifmjnmaa
