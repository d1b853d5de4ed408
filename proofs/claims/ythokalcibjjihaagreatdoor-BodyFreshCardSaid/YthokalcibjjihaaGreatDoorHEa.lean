/- The traversal of widths, for Pack; Pack of the program. -/
import Derived.Test.YthokalcibjjihaaGreatDoorHSl
namespace Go.Proofs.YthokalcibjjihaaGreatDoor.hd
open Go.ChangeShapes Go.WideShapes Go.ChangeAt Go.RowKit

theorem Bel.trans_below {a b c : World} (h : Bel a b) (k : Below a.heap.size b c) : Bel a c := Below.trans h k

theorem each_none (p : Option Addr) (cap : Nat) (fv : Value) (w : World) :
    Calls Tryz.prog 136 #[.slice p 0 cap, fv] w fun e w' => e = .returned (.tuple #[.int .i64 0, .bool false]) ∧ w' = w := by
  go_enter Tryz.func136, Tryz.ntmps136
  go_wp2
  go_loop [4, 10] (fun a i => a = .int .i64 0 ∧ i = .int .i64 0) (fun _ _ => 0)
  case atStart => exact ⟨rfl, rfl⟩
  case round =>
    obtain ⟨rfl, rfl⟩ := hrel
    go_wp2
    go_ret2
    exact ⟨rfl, rfl⟩

/-- what holds at each round's head -/
def PackR (F : Nat → Int) (g : Nat → Nat) (n : Nat) (w0 : World) (vs : Value) (bf bv bw : Nat) (a i : Value) (wr : World) : Prop :=
  ∃ k : Nat, k ≤ n ∧ a = .int .i64 (start F k : Nat) ∧ i = .int .i64 (k : Nat) ∧ okTo F k ∧ ∃ (t : Bool) (u : Nat), u < 18446744073709551616 ∧ (t = true ↔ fitTo F g k) ∧ (fitTo F g k → u = packTo F g k) ∧
    wr.heap[bf]? = some (.cells #[.bool t] 4 (0, 0)) ∧ wr.heap[bv]? = some (.cells #[vs] 49 (0, 0)) ∧ wr.heap[bw]? = some (.cells #[.int .u64 (u : Nat)] 42 (0, 0)) ∧ Bel w0 wr

theorem or_lt {a b : Nat} (ha : a < 18446744073709551616) (hb : b < 18446744073709551616) : a ||| b < 18446744073709551616 := Nat.or_lt_two_pow (n := 64) ha hb

theorem fit_step {F : Nat → Int} {g : Nat → Nat} {k u : Nat} {t : Bool} (hok : okTo F (k + 1)) (ht : t = true ↔ fitTo F g k) (hu : fitTo F g k → u = packTo F g k) :
    ((t && decide (g k < 2 ^ (F k).toNat)) = true ↔ fitTo F g (k + 1)) ∧ (fitTo F g (k + 1) → (u ||| (g k * 2 ^ start F k % 18446744073709551616)) = packTo F g (k + 1)) := by
  refine ⟨⟨fun h => ?_, fun h => ?_⟩, fun h => ?_⟩
  · rw [Bool.and_eq_true] at h
    exact fitTo_succ (ht.1 h.1) (of_decide_eq_true h.2)
  · rw [Bool.and_eq_true]
    exact ⟨ht.2 (fitTo_le h (by omega)), decide_eq_true (h k (by omega))⟩
  · have hk := fitTo_le h (Nat.le_succ k)
    have hokk := okTo_le hok (Nat.le_succ k)
    rw [hu hk, Nat.mod_eq_of_lt (part_lt (ok_nat hok) (h k (by omega))), pack_step (ok_nat hok) (h k (by omega)) (packTo_lt hokk hk)]
    rfl

set_option maxHeartbeats 2000000 in
theorem each_pack (b1 off1 cap1 b2 off2 cap2 n bf bv bw : Nat) (F : Nat → Int) (g : Nat → Nat) (w0 w : World) (hn : 1 ≤ n) (hc1 : n ≤ cap1) (hbig : cap1 ≤ 9223372036854775807)
    (hF : ∀ j, j < n → w0.cell? ⟨b1, off1 + j, none⟩ = some (.int .i64 (F j))) (hg : ∀ j, j < n → w0.cell? ⟨b2, off2 + j, none⟩ = some (.int .u64 (g j : Nat)))
    (hFb : ∀ j, -9223372036854775808 ≤ F j ∧ F j ≤ 9223372036854775807) (hgb : ∀ j, g j < 18446744073709551616)
    (h1 : bf ≠ bv) (h2 : bf ≠ bw) (h3 : bv ≠ bw) (h4 : w0.heap.size ≤ bf) (h5 : w0.heap.size ≤ bw)
    (kf : w.heap[bf]? = some (.cells #[.bool true] 4 (0, 0))) (kv : w.heap[bv]? = some (.cells #[.slice (some ⟨b2, off2, none⟩) n cap2] 49 (0, 0))) (kw : w.heap[bw]? = some (.cells #[.int .u64 0] 42 (0, 0))) (hb : Bel w0 w) :
    Calls Tryz.prog 136 #[.slice (some ⟨b1, off1, none⟩) n cap1, .func (.func 137) #[] #[.pointer (some ⟨bf, 0, none⟩), .pointer (some ⟨bv, 0, none⟩), .pointer (some ⟨bw, 0, none⟩)]] w fun e w' =>
      ((okTo F n ∧ fitTo F g n ∧ e = .returned (.tuple #[.int .i64 (start F n : Nat), .bool true]) ∧ w'.heap[bf]? = some (.cells #[.bool true] 4 (0, 0)) ∧ w'.heap[bw]? = some (.cells #[.int .u64 (packTo F g n : Nat)] 42 (0, 0))) ∨
       (okTo F n ∧ ¬ fitTo F g n ∧ e = .returned (.tuple #[.int .i64 (start F n : Nat), .bool true]) ∧ w'.heap[bf]? = some (.cells #[.bool false] 4 (0, 0))) ∨
       (¬ okTo F n ∧ e = .returned (.tuple #[.int .i64 0, .bool false]))) ∧ Bel w0 w' := by
  go_enter Tryz.func136, Tryz.ntmps136
  go_wp2
  go_loopw [4, 10] (fun a i wr => PackR F g n w0 (.slice (some ⟨b2, off2, none⟩) n cap2) bf bv bw a i wr) (fun _ i _ => n - (intOf i).toNat)
  case atStart => exact ⟨0, Nat.zero_le _, rfl, rfl, fun i hi => by omega, true, 0, by decide, ⟨fun _ i hi => by omega, fun _ => rfl⟩, fun _ => rfl, kf, kv, kw, hb⟩
  case round =>
    obtain ⟨k, hk, rfl, rfl, hok, t, u, hu, ht, hpk, rf, rv, rw', hbr⟩ := hrel
    have s64 := start_le hok
    by_cases ck : k < n
    · have cF : wr.cell? ⟨b1, off1 + k, none⟩ = some (.int .i64 (F k)) := cell_bel hbr (hF k ck)
      have cg : wr.cell? ⟨b2, off2 + k, none⟩ = some (.int .u64 (g k : Nat)) := cell_bel hbr (hg k ck)
      have va := fun w => valid_any (start F k) (F k) w (by omega) (by omega) (hFb k).1 (hFb k).2
      cases co : okF (start F k) (F k)
      · rw [co] at va
        have no : ¬ okTo F n := fun h => by
          have := h k ck
          have c2 := of_decide_eq_false co
          omega
        generalize start F k = S at *
        generalize F k = fk at *
        clear hF hg hFb hgb rf rv rw' kf kv kw ht hpk hok co cg hb
        go_wp2_with (go_at_call 141; refine (va _).mono ?_; rintro e w' ⟨rfl, hw⟩; rw [hw])
        go_ret2
        exact ⟨Or.inr (Or.inr ⟨no, rfl⟩), hbr⟩
      · rw [co] at va
        have c2 := of_decide_eq_true co
        have hok' : okTo F (k + 1) := okTo_succ hok c2.2.1 c2.2.2
        obtain ⟨st1, st2⟩ := fit_step (g := g) hok' ht hpk
        have ul := or_lt hu (Nat.mod_lt (g k * 2 ^ start F k) (by decide : 0 < 18446744073709551616))
        have sS : start F (k + 1) = start F k + (F k).toNat := rfl
        obtain ⟨M, hM⟩ : ∃ M : Nat, F k = M := ⟨(F k).toNat, by omega⟩
        have p1 := pack1 k (start F k) M (g k) u n cap2 bf bv bw b2 off2 t wr ck (by omega) (hgb k) hu rf rv rw' cg h1 h2 h3 (Nat.lt_of_lt_of_le (cell_block (hg k ck)).1 h4) w0.heap.size h4 h5
        rw [hM] at va cF st1 sS c2
        rw [Int.toNat_natCast] at st1 sS
        generalize (t && decide (g k < 2 ^ M)) = t' at *
        generalize u ||| g k * 2 ^ start F k % 18446744073709551616 = u' at *
        generalize hS' : start F (k + 1) = S' at *
        have hid := Lib.hid (And.intro st1 (And.intro st2 (And.intro hok' (And.intro ul (And.intro hbr hS')))))
        clear st1 st2 hok' hok ht hpk hu rf rv rw' kf kv kw hF hg hFb hgb hb hM co ul cg hS'
        generalize start F k = S at *
        go_wp2_with (first | (go_at_call 141; refine (va _).mono ?_; rintro e w' ⟨rfl, hw⟩; rw [hw]) | (go_at_call 137; refine p1.mono ?_; rintro e w' ⟨rfl, r1, r2, r3, r4⟩))
        go_roundw
        case rel =>
          obtain ⟨i1, i2, i3, i4, i5, i6⟩ := hid.out
          exact ⟨k + 1, by omega, by rw [i6]; go_num, by go_num, i3, t', u', i4, i1, i2, r1, r2, r3, i5.trans_below r4⟩
        case measure => simp only [intOf]; omega
    · obtain rfl : k = n := by omega
      have sg := start_ge hok
      have sp : decide (0 < start F k) = true := decide_eq_true (by omega)
      clear hF hg hFb hgb kf kv kw hb sg
      go_wp2
      go_ret2
      refine ⟨?_, hbr⟩
      by_cases ft : fitTo F g k
      · have e1 := ht.2 ft
        have e2 := hpk ft
        subst e1; subst e2
        exact Or.inl ⟨hok, ft, rfl, rf, rw'⟩
      · have e1 : t = false := by cases t; rfl; exact absurd (ht.1 rfl) ft
        subst e1
        exact Or.inr (Or.inl ⟨hok, ft, rfl, rf⟩)

instance (F : Nat → Int) (k : Nat) : Decidable (okTo F k) := by unfold okTo; infer_instance
instance (F : Nat → Int) (g : Nat → Nat) (k : Nat) : Decidable (fitTo F g k) := by unfold fitTo; infer_instance

/-- what Pack answers: of n widths and m values -/
def packR (F : Nat → Int) (n : Nat) (g : Nat → Nat) (m : Nat) : Nat := if m = n ∧ 1 ≤ n ∧ okTo F n ∧ fitTo F g n then packTo F g n else 0
def packE (F : Nat → Int) (n : Nat) (g : Nat → Nat) (m : Nat) : Int := if m = n ∧ 1 ≤ n ∧ okTo F n then (if fitTo F g n then 0 else 4) else 2

theorem three (w : World) (a b c : Obj) :
    (((w.alloc a).alloc b).alloc c).heap[w.heap.size]? = some a ∧ (((w.alloc a).alloc b).alloc c).heap[w.heap.size + 1]? = some b ∧ (((w.alloc a).alloc b).alloc c).heap[w.heap.size + 1 + 1]? = some c := by
  have s1 : (w.alloc a).heap.size = w.heap.size + 1 := by show (w.heap.push a).size = _; simp
  have s2 : ((w.alloc a).alloc b).heap.size = w.heap.size + 1 + 1 := by show ((w.alloc a).heap.push b).size = _; rw [Array.size_push, s1]
  refine ⟨?_, ?_, ?_⟩
  · rw [Below.heap_alloc _ _ _ (by omega), Below.heap_alloc _ _ _ (by omega)]; exact (MapKept.heap_alloc w a).1
  · rw [Below.heap_alloc _ _ _ (by omega), ← s1]; exact (MapKept.heap_alloc _ b).1
  · rw [← s2]; exact (MapKept.heap_alloc _ c).1

theorem bel_three (w : World) (a b c : Obj) : Bel w (((w.alloc a).alloc b).alloc c) := (((Bel.refl w).alloc a).alloc b).alloc c

theorem pack_some (b1 off1 cap1 b2 off2 cap2 n : Nat) (F : Nat → Int) (g : Nat → Nat) (w : World) (hn : 1 ≤ n) (hc1 : n ≤ cap1) (hbig : cap1 ≤ 9223372036854775807)
    (hF : ∀ j, j < n → w.cell? ⟨b1, off1 + j, none⟩ = some (.int .i64 (F j))) (hg : ∀ j, j < n → w.cell? ⟨b2, off2 + j, none⟩ = some (.int .u64 (g j : Nat)))
    (hFb : ∀ j, -9223372036854775808 ≤ F j ∧ F j ≤ 9223372036854775807) (hgb : ∀ j, g j < 18446744073709551616) :
    Calls Tryz.prog 126 #[.slice (some ⟨b1, off1, none⟩) n cap1, .slice (some ⟨b2, off2, none⟩) n cap2] w fun e w' => e = .returned (.tuple #[.int .u64 (packR F n g n : Nat), .int .i64 (packE F n g n)]) ∧ Bel w w' := by
  obtain ⟨t1, t2, t3⟩ := three w (.cells #[.slice (some ⟨b2, off2, none⟩) n cap2] 49) (.cells #[.int .u64 0] 42) (.cells #[.bool true] 4)
  have ep := each_pack b1 off1 cap1 b2 off2 cap2 n (w.heap.size + 1 + 1) w.heap.size (w.heap.size + 1) F g w _ hn hc1 hbig hF hg hFb hgb (by omega) (by omega) (by omega) (by omega) (by omega) t3 t1 t2 (bel_three _ _ _ _)
  clear t1 t2 t3 hF hg
  by_cases ok : okTo F n
  · by_cases ft : fitTo F g n
    · have c := ep.mono (R' := fun e w' => e = .returned (.tuple #[.int .i64 (start F n : Nat), .bool true]) ∧ w'.heap[w.heap.size + 1 + 1]? = some (.cells #[.bool true] 4 (0, 0)) ∧ w'.heap[w.heap.size + 1]? = some (.cells #[.int .u64 (packTo F g n : Nat)] 42 (0, 0)) ∧ Bel w w')
        (fun e w' ⟨h, hb⟩ => by rcases h with ⟨_, _, h1, h2, h3⟩ | ⟨_, h, _⟩ | ⟨h, _⟩; exact ⟨h1, h2, h3, hb⟩; exact absurd ft h; exact absurd ok h)
      unfold packR packE
      rw [if_pos ⟨rfl, hn, ok, ft⟩, if_pos ⟨rfl, hn, ok⟩, if_pos ft]
      generalize packTo F g n = R at *
      clear ep
      go_enter Tryz.func126, Tryz.ntmps126
      go_wp2_with (go_at_call 136; refine c.mono ?_; rintro e w' ⟨rfl, h1, h2, hb⟩; have c1 := cell_of_one h1; have c2 := cell_of_one h2)
      go_ret2
      exact ⟨rfl, by assumption⟩
    · have c := ep.mono (R' := fun e w' => e = .returned (.tuple #[.int .i64 (start F n : Nat), .bool true]) ∧ w'.heap[w.heap.size + 1 + 1]? = some (.cells #[.bool false] 4 (0, 0)) ∧ Bel w w')
        (fun e w' ⟨h, hb⟩ => by rcases h with ⟨_, h, _⟩ | ⟨_, _, h1, h2⟩ | ⟨h, _⟩; exact absurd h ft; exact ⟨h1, h2, hb⟩; exact absurd ok h)
      unfold packR packE
      rw [if_neg (fun h => ft h.2.2.2), if_pos ⟨rfl, hn, ok⟩, if_neg ft]
      clear ep
      go_enter Tryz.func126, Tryz.ntmps126
      go_wp2_with (go_at_call 136; refine c.mono ?_; rintro e w' ⟨rfl, h1, hb⟩; have c1 := cell_of_one h1)
      go_ret2
      exact ⟨rfl, by assumption⟩
  · have c := ep.mono (R' := fun e w' => e = .returned (.tuple #[.int .i64 0, .bool false]) ∧ Bel w w')
        (fun e w' ⟨h, hb⟩ => by rcases h with ⟨h, _⟩ | ⟨h, _⟩ | ⟨_, h⟩; exact absurd h ok; exact absurd h ok; exact ⟨h, hb⟩)
    unfold packR packE
    rw [if_neg (fun h => ok h.2.2.1), if_neg (fun h => ok h.2.2)]
    clear ep
    go_enter Tryz.func126, Tryz.ntmps126
    go_wp2_with (go_at_call 136; refine c.mono ?_; rintro e w' ⟨rfl, hb⟩)
    go_ret2
    exact ⟨rfl, by assumption⟩

theorem slice_cases {w : World} {v : Value} {n : Nat} {x : Nat → Value} (h : Row w v n x) : ∃ p cap, v = .slice p n cap := by
  rcases h with ⟨rfl, p, cap, rfl⟩ | ⟨b, off, cap, rfl, _⟩
  · exact ⟨p, cap, rfl⟩
  · exact ⟨_, cap, rfl⟩

/-- Pack of the program -/
theorem pack_any (ws vs : Value) (n m : Nat) (F : Nat → Int) (g : Nat → Nat) (w : World) (hF : Nums w ws n F) (hg : Words w vs m g) (hFb : ∀ j, -9223372036854775808 ≤ F j ∧ F j ≤ 9223372036854775807) (hgb : ∀ j, g j < 18446744073709551616) :
    Calls Tryz.prog 126 #[ws, vs] w fun e w' => e = .returned (.tuple #[.int .u64 (packR F n g m : Nat), .int .i64 (packE F n g m)]) ∧ Bel w w' := by
  by_cases e : m = n
  · subst e
    rcases hF with ⟨rfl, p, cap, rfl⟩ | ⟨b1, off1, cap1, rfl, hn, hc, hbig, hF⟩
    · obtain ⟨q, cap2, rfl⟩ := slice_cases hg
      have en := each_none p cap
      unfold packR packE
      rw [if_neg (fun h => absurd h.2.1 (by omega)), if_neg (fun h => absurd h.2.1 (by omega))]
      clear hg hFb hgb
      go_enter Tryz.func126, Tryz.ntmps126
      go_wp2_with (go_at_call 136; refine (en _ _).mono ?_; rintro e w' ⟨rfl, hw⟩; rw [hw])
      go_ret2
      exact ⟨rfl, bel_three _ _ _ _⟩
    · rcases hg with ⟨h, _⟩ | ⟨b2, off2, cap2, rfl, _, _, _, hg⟩
      · omega
      · exact pack_some b1 off1 cap1 b2 off2 cap2 m F g w hn hc hbig hF hg hFb hgb
  · obtain ⟨p, cap1, rfl⟩ := slice_cases hF
    obtain ⟨q, cap2, rfl⟩ := slice_cases hg
    unfold packR packE
    rw [if_neg (fun h => e h.1), if_neg (fun h => e h.1)]
    clear hF hg hFb hgb
    go_enter Tryz.func126, Tryz.ntmps126
    go_wp2
    go_ret2
    exact ⟨rfl, (Bel.refl w).alloc _⟩

end Go.Proofs.YthokalcibjjihaaGreatDoor.hd
