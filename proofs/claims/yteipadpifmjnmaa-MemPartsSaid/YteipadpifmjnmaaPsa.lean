/- Has a memory the document's words? -/
import Derived.Test.YteipadpifmjnmaaPdo
namespace Go.Proofs.Yteipadpifmjnmaa
open Go.ChangeShapes Go.WideShapes Go.ChangeAt Go.RowKit Go.Deep
set_option linter.unusedVariables false

theorem wordsE_at {R : List (List Nat)} {k : Nat} {l : List Nat} (h : R[k]? = some l) : wordsE R k = 0 ∧ wordsR R k = l := by
  have hlt := (List.getElem?_eq_some_iff.1 h).1
  have e : wordsE R k = 0 := if_neg (by omega)
  refine ⟨e, ?_⟩
  unfold wordsR
  rw [if_pos e, Int.toNat_natCast, List.getD_eq_getElem?_getD, h]
  rfl
theorem wordsE_past {R : List (List Nat)} {t : Int} (h : t < 0 ∨ (R.length : Int) ≤ t) : wordsE R t = 2 ∧ wordsR R t = [] := by
  have e : wordsE R t = 2 := if_pos h
  exact ⟨e, if_neg (by rw [e]; decide)⟩

theorem wsame_refl {X Y : Nat → Prop} (a b : Value) (l : List Nat) (w : World) (ha : Ws X w a l) (hb : Ws Y w b l) :
    Calls Try.prog 18 #[a, b] w fun e w' => e = .returned (.bool true) ∧ Bel w w' := by
  have := wsame_any X Y a b l l w ha hb
  rwa [decide_eq_true rfl] at this

set_option maxRecDepth 100000 in
set_option maxHeartbeats 2000000 in
theorem same7_any (X : Nat → Prop) (m q : Value) (lo hi : Nat) (R : List (List Nat)) (w : World) (hM : IsMem w m lo hi R) (hh : hi ≤ w.heap.size) (hq : IsRm X w q R) (hR : RmFull R) :
    Calls Try.prog 13 #[m, q] w fun e w' => e = .returned (.bool true) ∧ Bel w w' := by
  obtain ⟨rv, rfl, hRs⟩ := hq
  obtain ⟨p, cap, rfl, bd⟩ := hRs.slice
  have b1 := (Bel.refl w).alloc (.cells #[.slice p R.length cap] 36)
  have c0 := agg_at (w := w) (Bel.refl (w.alloc (.cells #[.slice p R.length cap] 36))) 0
  have G := Bel.refl (w.alloc (.cells #[.slice p R.length cap] 36))
  generalize hW : w.alloc (.cells #[.slice p R.length cap] 36) = W at *
  have hqW := hRs.bel b1
  have hMW := hM.bel b1 hh
  have hs := b1.size
  have kq : ∀ W1, Bel W W1 → Bel W W1 ∧ W1.cell? ⟨w.heap.size, 0, none⟩ = some (.slice p R.length cap) := fun W1 g => ⟨g, cell_bel g c0⟩
  have ow := fun (t : Int) W1 (g : Bel W W1) => pm_words m lo hi R t W1 (hMW.bel g (by omega))
  have oa := fun W1 (g : Bel W W1) => (pm_all m lo hi R W1 (hMW.bel g (by omega))).mono fun e w' h => (⟨h.1.imp fun lv h => ⟨h.1, h.2.ws (X := fun _ => False) fun _ _ _ x => x.elim⟩, h.2, g.trans h.2⟩ : (∃ lv, e = .returned lv ∧ Ws (fun _ => False) w' lv R.flatten) ∧ Bel W1 w' ∧ Bel W w')
  have ora := fun W1 (g : Bel W W1) => (rall_any X (.agg #[.slice p R.length cap]) R W1 ⟨_, rfl, hqW.bel g⟩ hR).mono fun e w' h => (⟨h.1.imp fun lv h => ⟨h.1, h.2.ws (X := fun _ => False) fun _ _ _ x => x.elim⟩, h.2, g.trans h.2⟩ : (∃ lv, e = .returned lv ∧ Ws (fun _ => False) w' lv R.flatten) ∧ Bel W1 w' ∧ Bel W w')
  have hid := Lib.hid (And.intro hqW (And.intro b1 hR))
  clear hqW hMW hRs hM hR hh hs
  obtain ⟨n, hn⟩ : ∃ n, R.length = n := ⟨_, rfl⟩
  have hidn := Lib.hid hn
  rw [hn] at hW c0 bd kq ora ⊢
  clear hn
  subst hW
  go_enter Try.func13, Try.ntmps13
  go_wp2
  go_loopw [5] (fun i wr => ∃ k : Nat, k ≤ n ∧ i = .int .i64 (k : Nat) ∧ Bel (w.alloc (.cells #[.slice p n cap] 36)) wr) (fun i _ => n - (intOf i).toNat)
  case atStart => exact ⟨0, Nat.zero_le _, rfl, G⟩
  case round =>
    obtain ⟨k, hk, rfl, hbr⟩ := hrel
    obtain ⟨_, c1⟩ := kq _ hbr
    by_cases ck : k < n
    · obtain ⟨l, hl⟩ : ∃ l, R[k]? = some l := ⟨R[k]'(by rw [hidn.out]; exact ck), List.getElem?_eq_getElem _⟩
      have owk := ow k wr hbr
      obtain ⟨e1, e2⟩ := wordsE_at hl
      rw [e1, e2] at owk
      have hRs := (hid.out.1.bel hbr)
      obtain ⟨b, off, cap', lv, ev, j1, j2, j3, j4, c, hw⟩ := hRs.at hl
      injection ev with ev1 ev2 ev3
      clear ev2
      have kI : (k : Int) < (n : Int) := by omega
      have kz : (0 : Int) ≤ (k : Int) := by omega
      subst ev1; subst ev3
      have ws := fun (a : Value) W1 (Y : Nat → Prop) (ha : Ws Y W1 a l) (g : Bel wr W1) => wsame_any Y X a lv l l W1 ha (hw.bel g)
      simp only [decide_true] at ws
      have hidw := Lib.hid hw
      clear hRs hl e1 e2 ow oa ora hw
      go_wp2_with (first
        | (go_at_call 14; refine owk.mono ?_; rintro e w4 ⟨⟨lw, rfl, hlw⟩, hg⟩
           have hg2 := hbr.trans hg
           obtain ⟨_, c2⟩ := kq _ hg2
           have cr := cell_bel hg c)
        | (go_at_call 18; refine (ws _ _ _ hlw (by assumption)).mono ?_; rintro e w5 ⟨rfl, hg3⟩))
      go_roundw
      case rel => exact ⟨k + 1, by omega, by go_num, hg2.trans hg3⟩
      case measure => simp only [intOf]; omega
    · obtain rfl : k = n := by omega
      have owk := ow k wr hbr
      obtain ⟨e1, e2⟩ := wordsE_past (R := R) (t := k) (Or.inr (by rw [hidn.out]; omega))
      rw [e1, e2] at owk
      clear e1 e2 ow
      go_wp2_with (go_at_call 14; refine owk.mono ?_; rintro e w4 ⟨⟨lw, rfl, hlw⟩, hg⟩
                   have hg2 := hbr.trans hg
                   obtain ⟨_, c2⟩ := kq _ hg2)
      clear hlw c1
      go_region_held3 (fun w' => Bel (w.alloc (.cells #[.slice p k cap] 36)) w' ∧ w'.cell? ⟨w.heap.size, 0, none⟩ = some (.slice p k cap))
        (first | with_reducible exact kq _ (by assumption) | with_reducible exact kq _ (Bel.drew (by assumption)))
        (first
          | (go_at_call 20; refine (oa _ (by first | assumption | exact Bel.drew (by assumption))).mono ?_; rintro e w5 ⟨⟨la, rfl, hla⟩, hga, hgb⟩)
          | (go_at_call 32; refine (ora _ (by first | assumption | exact Bel.drew (by assumption))).mono ?_; rintro e w6 ⟨⟨lb, rfl, hlb⟩, hgc, hgd⟩)
          | (go_at_call 18; refine (wsame_refl la lb R.flatten _ (by first | assumption | exact Ws.bel hla (by assumption)) (by first | assumption | exact Ws.bel hlb (by assumption))).mono ?_; rintro e w7 ⟨rfl, hge⟩; have hgf : Bel (w.alloc (.cells #[.slice p k cap] 36)) w7 := Bel.trans (by assumption) hge))
      go_wp2
      go_ret
      exact ⟨rfl, hid.out.2.1.trans hgf⟩

end Go.Proofs.Yteipadpifmjnmaa
