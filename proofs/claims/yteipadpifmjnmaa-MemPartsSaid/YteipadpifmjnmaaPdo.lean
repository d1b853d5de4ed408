/- An act on a memory, and on the document's. -/
import Derived.Test.YteipadpifmjnmaaPm
import Derived.Deep.RegionHeld3
import Derived.Deep.Cut
import Derived.Deep.DeepCutAuto
namespace Go.Proofs.Yteipadpifmjnmaa
open Go.ChangeShapes Go.WideShapes Go.ChangeAt Go.RowKit Go.Deep
set_option linter.unusedVariables false

theorem IsMem.exc {X : Nat → Prop} {w w' : World} {v : Value} {lo hi : Nat} {R : List (List Nat)} (h : IsMem w v lo hi R) (g : Exc X w w') (hx : ∀ k, Own lo hi k → ¬ X k) (hh : hi ≤ w.heap.size) : IsMem w' v lo hi R :=
  h.keep fun k h1 h2 => g.block k (by omega) (hx k ⟨h1, h2⟩)
theorem IsMem.bel {w w' : World} {v : Value} {lo hi : Nat} {R : List (List Nat)} (h : IsMem w v lo hi R) (g : Bel w w') (hh : hi ≤ w.heap.size) : IsMem w' v lo hi R :=
  h.keep fun k _ h2 => g.block k (by omega)

/-- what an act makes of a memory -/
def stepR (R : List (List Nat)) (what : Nat) (t a n : Int) (u : Nat) : List (List Nat) := if what % 4 = 2 then R else if what % 4 = 3 then zeroR R t a n else storeR R t a u
theorem RmFull.step {R : List (List Nat)} (h : RmFull R) (what : Nat) (t a n : Int) (u : Nat) : RmFull (stepR R what t a n u) := by
  unfold stepR
  split
  · exact h
  · split
    · exact h.zero _ _ _
    · exact h.store _ _ _

theorem Exc.tail {X Z : Nat → Prop} {a b c : World} (h : Exc X a b) (g : Exc Z b c) (hz : ∀ k, Z k → a.heap.size ≤ k) : Exc X a c :=
  ⟨g.os.trans h.os, g.tape.trans h.tape, g.output.trans h.output, Nat.le_trans h.size g.size, fun k hk hx => (g.block k (Nat.lt_of_lt_of_le hk h.size) fun y => by have := hz k y; omega).trans (h.block k hk hx)⟩

theorem act_at {w W' : World} {a b c d e : Value} {t : TypeId} {s : Nat} (hs : w.heap.size = s) (h : Bel (w.alloc (.cells #[a, b, c, d, e] t)) W') :
    W'.cell? ⟨s, 0, none⟩ = some a ∧ W'.cell? ⟨s, 1, none⟩ = some b ∧ W'.cell? ⟨s, 2, none⟩ = some c ∧ W'.cell? ⟨s, 3, none⟩ = some d ∧ W'.cell? ⟨s, 4, none⟩ = some e := by
  subst hs
  exact ⟨agg_at h 0, agg_at h 1, agg_at h 2, agg_at h 3, agg_at h 4⟩

set_option maxRecDepth 100000 in
set_option maxHeartbeats 2000000 in
theorem does_any (X : Nat → Prop) (m q : Value) (lo hi : Nat) (R : List (List Nat)) (what : Nat) (t a n : Int) (u : Nat) (w : World) (hM : IsMem w m lo hi R) (hh : hi ≤ w.heap.size) (hO : ∀ k, Own lo hi k → X k) (hq : IsRm X w q R) (hX : Till X w) (hR : RmFull R) (h8 : what ≤ 255) (hn : -9223372036854775808 ≤ n ∧ n ≤ 9223372036854775807) :
    Calls Try.prog 12 #[m, q, .agg #[.int .u8 (what : Nat), .int .i64 t, .int .i64 a, .int .i64 n, .int .u64 (u : Nat)]] w fun e w' => (∃ q', e = .returned (.tuple #[q', .bool true]) ∧ IsRm X w' q' (stepR R what t a n u)) ∧ IsMem w' m lo hi (stepR R what t a n u) ∧ Exc (Own lo hi) w w' := by
  have hidn := Lib.hid hn
  clear hn
  obtain ⟨rv, rfl, hRs⟩ := hq
  obtain ⟨p, cap, rfl, bd⟩ := hRs.slice
  obtain ⟨m0, m1, m2, m3⟩ := three_made w (.cells #[.slice p R.length cap] 36) (.cells #[.int .u8 (what : Nat), .int .i64 t, .int .i64 a, .int .i64 n, .int .u64 (u : Nat)] 42) (.cells #[.slice none 0 0] 36)
  have g3 := (((Bel.refl w).alloc (.cells #[.slice p R.length cap] 36)).alloc (.cells #[.int .u8 (what : Nat), .int .i64 t, .int .i64 a, .int .i64 n, .int .u64 (u : Nat)] 42)).alloc (.cells #[.slice none 0 0] 36)
  have G := Bel.refl (((w.alloc (.cells #[.slice p R.length cap] 36)).alloc (.cells #[.int .u8 (what : Nat), .int .i64 t, .int .i64 a, .int .i64 n, .int .u64 (u : Nat)] 42)).alloc (.cells #[.slice none 0 0] 36))
  generalize hW : ((w.alloc (.cells #[.slice p R.length cap] 36)).alloc (.cells #[.int .u8 (what : Nat), .int .i64 t, .int .i64 a, .int .i64 n, .int .u64 (u : Nat)] 42)).alloc (.cells #[.slice none 0 0] 36) = W at *
  -- the boxes, wherever all lies as it lay
  have kq : ∀ W1, Bel W W1 → W1.cell? ⟨w.heap.size, 0, none⟩ = some (.slice p R.length cap) := fun W1 g => cell_of_row _ _ 0 _ _ (0, 0) (heap_bel g m0)
  have ka : ∀ W1, Bel W W1 → W1.cell? ⟨w.heap.size + 1, 0, none⟩ = some (.int .u8 (what : Nat)) ∧ W1.cell? ⟨w.heap.size + 1, 1, none⟩ = some (.int .i64 t) ∧ W1.cell? ⟨w.heap.size + 1, 2, none⟩ = some (.int .i64 a) ∧ W1.cell? ⟨w.heap.size + 1, 3, none⟩ = some (.int .i64 n) ∧ W1.cell? ⟨w.heap.size + 1, 4, none⟩ = some (.int .u64 (u : Nat)) := fun W1 g =>
    have h := heap_bel g m1
    ⟨cell_of_row _ _ 0 _ _ (0, 0) h, cell_of_row _ _ 1 _ _ (0, 0) h, cell_of_row _ _ 2 _ _ (0, 0) h, cell_of_row _ _ 3 _ _ (0, 0) h, cell_of_row _ _ 4 _ _ (0, 0) h⟩
  have hqW : IsRm (fun b => X b ∨ w.heap.size ≤ b) W (.agg #[.slice p R.length cap]) R := ⟨_, rfl, hRs.old.bel g3⟩
  have hMW := hM.bel g3 hh
  by_cases w2 : what % 4 = 2
  · have eS : stepR R what t a n u = R := if_pos w2
    rw [eS]
    have ol := fun W1 (g : Bel W W1) => pm_load m lo hi R t a W1 (hMW.bel g (by have := g3.size; omega))
    have orf := fun W1 (g : Bel W W1) => load_any _ (.agg #[.slice p R.length cap]) R t a W1 (hqW.bel g)
    have hid := Lib.hid (And.intro hqW (And.intro hMW (And.intro g3 (And.intro m2 m3))))
    clear hqW hMW hRs hM hR eS g3 m0 m1 m2 m3 hO hX
    generalize loadR R t a = L at *
    generalize inE R t a = E at *
    subst hW
    go_enter Try.func12, Try.ntmps12
    have e2 : (what : Int) % 4 = 2 := by omega
    go_wp2_with (first
      | (go_at_call 17; refine (ol _ (by assumption)).mono ?_; rintro e w4 ⟨rfl, hg⟩
         have k0 := kq _ hg
         obtain ⟨a0, a1, a2, a3, a4⟩ := ka _ hg)
      | (go_at_call 29; refine (orf _ (by assumption)).mono ?_; rintro e w5 ⟨rfl, hg2⟩
         have hg3 := hg.trans hg2
         have k0 := kq _ hg3
         obtain ⟨a0, a1, a2, a3, a4⟩ := ka _ hg3
         obtain ⟨fz, cx3, W6, hW6, hbx6, cx6, hE6⟩ := box_store (x := .slice p R.length cap) (heap_bel hg3 hid.out.2.2.2.1)
         have hid6 := Lib.hid (And.intro hbx6 hE6)
         clear hbx6 hE6))
    (try simp only [Exit.inBlock, Exit.then])
    refine bodyPost_ret (results_cell_row2 rfl _ _ _ 36 _ (0, 0) _ rfl hid6.out.1 Try.underlying36 rfl info_rm) rfl ?_
    obtain ⟨hbx6, hE6⟩ := hid6.out
    obtain ⟨hqW, hMW, g3, _, s3⟩ := hid.out
    have sz := hg3.size
    have hb6 : Bel w W6 := Below.trans (g3.trans hg3) (hE6.below (fun x hx => by omega) (by omega))
    refine ⟨⟨.agg #[.slice p R.length cap], by simp, ?_⟩, (hMW.bel hg3 (by omega)).exc hE6 (fun k hk => by have := hk.2; omega) (by omega), hb6.exc⟩
    exact ((hqW.bel hg3).exc (hE6.mono fun k hk => Or.inr (by omega))).less fun k hk => Or.inl hk
  · by_cases w3 : what % 4 = 3
    · have eS : stepR R what t a n u = zeroR R t a n := by unfold stepR; rw [if_neg w2, if_pos w3]
      rw [eS]
      have e3 : (what : Int) % 4 = 3 := by omega
      have hqz : IsRm (fun b => X b ∨ b = w.heap.size + 2) W (.agg #[.slice p R.length cap]) R := hqW.less fun k hk => by
        rcases hk with hk | hk
        · exact Or.inl hk
        · exact Or.inr (by omega)
      have hXz : ∀ W1, Bel W W1 → Till (fun b => X b ∨ b = w.heap.size + 2) W1 := fun W1 g k hk => by
        have := g.size
        rcases hk with hk | hk
        · have := hX k hk; omega
        · omega
      have orf := fun W1 (g : Bel W W1) => rzero_any _ (.agg #[.slice p R.length cap]) R t a n W1 (hqz.bel g) (hXz W1 g) hR.ok
      have opm := fun W1 (g : Bel W W1) => pm_zero m lo hi R t a n W1 (hMW.bel g (by have := g3.size; omega)) (by have := g3.size; have := g.size; omega) hidn.out
      have hON : ¬ X (w.heap.size + 1) := fun h => by have := hX _ h; omega
      have hid := Lib.hid (And.intro hO (And.intro hX (And.intro g3 (And.intro m2 m3))))
      have hS := Lib.hid hON
      clear hqW hMW hRs hM hR eS g3 m0 m1 m2 m3 hO hX hqz hXz hON
      generalize zeroR R t a n = S at *
      generalize zeroE R t a n = E at *
      subst hW
      go_enter Try.func12, Try.ntmps12
      go_upto_region 8 with (first
        | (go_at_call 30; refine (orf _ (by assumption)).mono ?_; rintro e w4 ⟨⟨q', rfl, rv', rfl, hR'⟩, hg⟩
           obtain ⟨p', cap', rfl, bd'⟩ := hR'.slice
           have k0 := kq _ hg
           obtain ⟨a0, a1, a2, a3, a4⟩ := ka _ hg
           have hidR := Lib.hid hR'
           clear hR'))
      clear k0 a0 a1 a2 a3 a4
      have gb := (Bel.refl w4).alloc (.cells #[.slice p' S.length cap'] 36)
      have hidb := Lib.hid (And.intro gb (hg.trans gb))
      have hPX : ¬ (X w4.heap.size ∨ w4.heap.size = w.heap.size + 2) := fun h => by
        have := hg.size
        have := hid.out.2.2.2.2
        rcases h with h | h
        · have := hid.out.2.1 _ h; omega
        · omega
      have cP : (w4.alloc (.cells #[.slice p' S.length cap'] 36)).cell? ⟨w4.heap.size, 0, none⟩ = some (.slice p' S.length cap') := agg_at (Bel.refl _) 0
      have A := ka _ hidb.out.2
      have h2 := heap_bel hidb.out.2 hid.out.2.2.2.1
      generalize w4.alloc (.cells #[.slice p' S.length cap'] 36) = w5 at *
      have hNX : ¬ (X (w.heap.size + 1) ∨ w.heap.size + 1 = w.heap.size + 2) := fun h => by
        rcases h with h | h
        · exact hS.out h
        · omega
      have kp : ∀ W1, Exc (fun b => X b ∨ b = w.heap.size + 2) w5 W1 → Exc (fun b => X b ∨ b = w.heap.size + 2) w5 W1 ∧ W1.cell? ⟨w4.heap.size, 0, none⟩ = some (.slice p' S.length cap') ∧ W1.cell? ⟨w.heap.size + 1, 1, none⟩ = some (.int .i64 t) ∧ W1.cell? ⟨w.heap.size + 1, 2, none⟩ = some (.int .i64 a) ∧ W1.cell? ⟨w.heap.size + 1, 3, none⟩ = some (.int .i64 n) := fun W1 g =>
        ⟨g, cell_exc g cP hPX, cell_exc g A.2.1 hNX, cell_exc g A.2.2.1 hNX, cell_exc g A.2.2.2.1 hNX⟩
      have hh2 := Lib.hid h2
      have hhA := Lib.hid (And.intro A (And.intro hPX hNX))
      have g0 : Exc (fun b => X b ∨ b = w.heap.size + 2) w5 w5 := (Bel.refl w5).exc
      obtain ⟨_, cP', c1, c2, c3⟩ := kp _ g0
      have opm5 := opm _ hidb.out.2.drew
      have hZ : ∀ W1, Bel w5 W1 → Exc (fun b => X b ∨ b = w.heap.size + 2) w5 W1 := fun W1 g => g.exc
      have hOX : ∀ W1, Exc (Own lo hi) w5.drew W1 → Exc (fun b => X b ∨ b = w.heap.size + 2) w5 W1 := fun W1 g => Exc.trans (Bel.exc (Bel.drew (Bel.refl w5))) (g.mono fun k hk => Or.inl (hid.out.1 k hk))
      have gw5 := Bel.refl w5
      have hN2 := Lib.hid (show ¬ Own lo hi (w.heap.size + 2) from fun h => by have := h.2; omega)
      clear ka kq cP A h2 hPX hNX hg gb
      go_region_held3 (fun w' => Exc (fun b => X b ∨ b = w.heap.size + 2) w5 w' ∧ w'.cell? ⟨w4.heap.size, 0, none⟩ = some (.slice p' S.length cap') ∧ w'.cell? ⟨w.heap.size + 1, 1, none⟩ = some (.int .i64 t) ∧ w'.cell? ⟨w.heap.size + 1, 2, none⟩ = some (.int .i64 a) ∧ w'.cell? ⟨w.heap.size + 1, 3, none⟩ = some (.int .i64 n))
        (first | with_reducible exact kp _ (by assumption) | with_reducible exact kp _ (hZ _ (Bel.drew gw5)))
        (first | (go_at_call 15; refine opm5.mono ?_; rintro e w6 ⟨rfl, hM6, hE6⟩
                  have G6 := hOX _ hE6
                  obtain ⟨fz, cx3, W7, hW7, hbx7, cx7, hE7⟩ := box_store (x := .slice p' S.length cap') ((hE6.block _ (heap_lt hh2.out) (by exact hN2.out)).trans hh2.out)
                  have G7 := Exc.trans G6 (hE7.mono (Y := fun b => X b ∨ b = w.heap.size + 2) fun k hk => Or.inr hk)
                  have hid7 := Lib.hid (And.intro hM6 (And.intro hE6 (And.intro hbx7 hE7)))
                  clear hM6 hE6 hbx7 hE7))
      go_wp2
      (try simp only [Exit.inBlock, Exit.then])
      refine bodyPost_ret (results_cell_row2 rfl _ _ _ 36 _ (0, 0) _ rfl hid7.out.2.2.1 Try.underlying36 rfl info_rm) rfl ?_
      obtain ⟨hM6, hE6, hbx7, hE7⟩ := hid7.out
      have sz := hidb.out.2.size
      have s3 := hid.out.2.2.2.2
      have s6 := hE6.size
      have s7 : w5.drew.heap.size = w5.heap.size := rfl
      have gww := hid.out.2.2.1.trans (hidb.out.2.trans (Bel.drew (Bel.refl w5)))
      refine ⟨⟨.agg #[.slice p' S.length cap'], by simp, ?_⟩, hM6.exc hE7 (fun k hk => by have := hk.2; omega) (by omega), (Exc.trans gww.exc hE6).tail hE7 (fun k hk => by omega)⟩
      exact ⟨_, rfl, ((hidR.out.bel hidb.out.1).exc G7).less fun k hk => Or.inl hk⟩
    · have eS : stepR R what t a n u = storeR R t a u := by unfold stepR; rw [if_neg w2, if_neg w3]
      rw [eS]
      have e2 : ((what : Int) % 4 == 2) = false := by rw [beq_eq_false_iff_ne]; omega
      have e3 : ((what : Int) % 4 == 3) = false := by rw [beq_eq_false_iff_ne]; omega
      have hqz : IsRm (fun b => X b ∨ b = w.heap.size + 2) W (.agg #[.slice p R.length cap]) R := hqW.less fun k hk => by
        rcases hk with hk | hk
        · exact Or.inl hk
        · exact Or.inr (by omega)
      have hXz : ∀ W1, Bel W W1 → Till (fun b => X b ∨ b = w.heap.size + 2) W1 := fun W1 g k hk => by
        have := g.size
        rcases hk with hk | hk
        · have := hX k hk; omega
        · omega
      have orf := fun W1 (g : Bel W W1) => rstore_any _ (.agg #[.slice p R.length cap]) R t a u W1 (hqz.bel g) (hXz W1 g) hR.ok
      have opm := fun W1 (g : Bel W W1) => pm_store m lo hi R t a u W1 (hMW.bel g (by have := g3.size; omega)) (by have := g3.size; have := g.size; omega)
      have hON : ¬ X (w.heap.size + 1) := fun h => by have := hX _ h; omega
      have hid := Lib.hid (And.intro hO (And.intro hX (And.intro g3 (And.intro m2 m3))))
      have hS := Lib.hid hON
      clear hqW hMW hRs hM hR eS g3 m0 m1 m2 m3 hO hX hqz hXz hON
      generalize storeR R t a u = S at *
      generalize inE R t a = E at *
      subst hW
      go_enter Try.func12, Try.ntmps12
      go_upto_region 10 with (first
        | (go_at_call 31; refine (orf _ (by assumption)).mono ?_; rintro e w4 ⟨⟨q', rfl, rv', rfl, hR'⟩, hg⟩
           obtain ⟨p', cap', rfl, bd'⟩ := hR'.slice
           have k0 := kq _ hg
           obtain ⟨a0, a1, a2, a3, a4⟩ := ka _ hg
           have hidR := Lib.hid hR'
           clear hR'))
      clear k0 a0 a1 a2 a3 a4
      have gb := (Bel.refl w4).alloc (.cells #[.slice p' S.length cap'] 36)
      have hidb := Lib.hid (And.intro gb (hg.trans gb))
      have hPX : ¬ (X w4.heap.size ∨ w4.heap.size = w.heap.size + 2) := fun h => by
        have := hg.size
        have := hid.out.2.2.2.2
        rcases h with h | h
        · have := hid.out.2.1 _ h; omega
        · omega
      have cP : (w4.alloc (.cells #[.slice p' S.length cap'] 36)).cell? ⟨w4.heap.size, 0, none⟩ = some (.slice p' S.length cap') := agg_at (Bel.refl _) 0
      have A := ka _ hidb.out.2
      have h2 := heap_bel hidb.out.2 hid.out.2.2.2.1
      generalize w4.alloc (.cells #[.slice p' S.length cap'] 36) = w5 at *
      have hNX : ¬ (X (w.heap.size + 1) ∨ w.heap.size + 1 = w.heap.size + 2) := fun h => by
        rcases h with h | h
        · exact hS.out h
        · omega
      have kp : ∀ W1, Exc (fun b => X b ∨ b = w.heap.size + 2) w5 W1 → Exc (fun b => X b ∨ b = w.heap.size + 2) w5 W1 ∧ W1.cell? ⟨w4.heap.size, 0, none⟩ = some (.slice p' S.length cap') ∧ W1.cell? ⟨w.heap.size + 1, 1, none⟩ = some (.int .i64 t) ∧ W1.cell? ⟨w.heap.size + 1, 2, none⟩ = some (.int .i64 a) ∧ W1.cell? ⟨w.heap.size + 1, 4, none⟩ = some (.int .u64 (u : Nat)) := fun W1 g =>
        ⟨g, cell_exc g cP hPX, cell_exc g A.2.1 hNX, cell_exc g A.2.2.1 hNX, cell_exc g A.2.2.2.2 hNX⟩
      have hh2 := Lib.hid h2
      have hhA := Lib.hid (And.intro A (And.intro hPX hNX))
      have g0 : Exc (fun b => X b ∨ b = w.heap.size + 2) w5 w5 := (Bel.refl w5).exc
      obtain ⟨_, cP', c1, c2, c3⟩ := kp _ g0
      have opm5 := opm _ hidb.out.2.drew
      have hZ : ∀ W1, Bel w5 W1 → Exc (fun b => X b ∨ b = w.heap.size + 2) w5 W1 := fun W1 g => g.exc
      have hOX : ∀ W1, Exc (Own lo hi) w5.drew W1 → Exc (fun b => X b ∨ b = w.heap.size + 2) w5 W1 := fun W1 g => Exc.trans (Bel.exc (Bel.drew (Bel.refl w5))) (g.mono fun k hk => Or.inl (hid.out.1 k hk))
      have gw5 := Bel.refl w5
      have hN2 := Lib.hid (show ¬ Own lo hi (w.heap.size + 2) from fun h => by have := h.2; omega)
      clear ka kq cP A h2 hPX hNX hg gb
      go_region_held3 (fun w' => Exc (fun b => X b ∨ b = w.heap.size + 2) w5 w' ∧ w'.cell? ⟨w4.heap.size, 0, none⟩ = some (.slice p' S.length cap') ∧ w'.cell? ⟨w.heap.size + 1, 1, none⟩ = some (.int .i64 t) ∧ w'.cell? ⟨w.heap.size + 1, 2, none⟩ = some (.int .i64 a) ∧ w'.cell? ⟨w.heap.size + 1, 4, none⟩ = some (.int .u64 (u : Nat)))
        (first | with_reducible exact kp _ (by assumption) | with_reducible exact kp _ (hZ _ (Bel.drew gw5)))
        (first | (go_at_call 16; refine opm5.mono ?_; rintro e w6 ⟨rfl, hM6, hE6⟩
                  have G6 := hOX _ hE6
                  obtain ⟨fz, cx3, W7, hW7, hbx7, cx7, hE7⟩ := box_store (x := .slice p' S.length cap') ((hE6.block _ (heap_lt hh2.out) (by exact hN2.out)).trans hh2.out)
                  have G7 := Exc.trans G6 (hE7.mono (Y := fun b => X b ∨ b = w.heap.size + 2) fun k hk => Or.inr hk)
                  have hid7 := Lib.hid (And.intro hM6 (And.intro hE6 (And.intro hbx7 hE7)))
                  clear hM6 hE6 hbx7 hE7))
      go_wp2
      (try simp only [Exit.inBlock, Exit.then])
      refine bodyPost_ret (results_cell_row2 rfl _ _ _ 36 _ (0, 0) _ rfl hid7.out.2.2.1 Try.underlying36 rfl info_rm) rfl ?_
      obtain ⟨hM6, hE6, hbx7, hE7⟩ := hid7.out
      have sz := hidb.out.2.size
      have s3 := hid.out.2.2.2.2
      have s6 := hE6.size
      have s7 : w5.drew.heap.size = w5.heap.size := rfl
      have gww := hid.out.2.2.1.trans (hidb.out.2.trans (Bel.drew (Bel.refl w5)))
      refine ⟨⟨.agg #[.slice p' S.length cap'], by simp, ?_⟩, hM6.exc hE7 (fun k hk => by have := hk.2; omega) (by omega), (Exc.trans gww.exc hE6).tail hE7 (fun k hk => by omega)⟩
      exact ⟨_, rfl, ((hidR.out.bel hidb.out.1).exc G7).less fun k hk => Or.inl hk⟩

end Go.Proofs.Yteipadpifmjnmaa
