/- Base and Total of the program. -/
import Derived.Test.YthokalcibjjihaaGreatDoorPsu
import Derived.Test.YthokalcibjjihaaGreatDoorEx
import Derived.Test.YthokalcibjjihaaGreatDoorMn
import Derived.Laws.ResultCell
import Derived.Test.YthokalcibjjihaaGreatDoorReg
import Derived.Deep.RegionLaw
import Derived.Laws.MakeOwn
namespace Go.Proofs.YthokalcibjjihaaGreatDoor.mm
open Go.ChangeShapes Go.WideShapes Go.ChangeAt Go.RowKit

/-- a boxed configuration's cells, and that all lies as it lay -/
theorem keep6 {w W : World} {a b c d e f : Value} {t : TypeId} (h : Bel (w.alloc (.cells #[a, b, c, d, e, f] t)) W) :
    Bel (w.alloc (.cells #[a, b, c, d, e, f] t)) W ∧ W.cell? ⟨w.heap.size, 0, none⟩ = some a ∧ W.cell? ⟨w.heap.size, 1, none⟩ = some b ∧ W.cell? ⟨w.heap.size, 2, none⟩ = some c ∧ W.cell? ⟨w.heap.size, 3, none⟩ = some d ∧ W.cell? ⟨w.heap.size, 4, none⟩ = some e ∧ W.cell? ⟨w.heap.size, 5, none⟩ = some f :=
  ⟨h, cf_at h⟩

set_option maxHeartbeats 1000000 in
theorem pbase_any (v : Value) (c : Cf) (t : Int) (w : World) (h : IsCf w v c) :
    Calls Tryz.prog 81 #[v, .int .i64 t] w fun e w' => e = .returned (.tuple #[.int .i64 (c.baseR t), .int .i64 (c.hasE t 0)]) ∧ Bel w w' := by
  have hI := h
  obtain ⟨vc, vt, rfl, hN, hT⟩ := h
  have hb0 : ∀ o, Bel w (w.alloc o) := fun o => (Bel.refl w).alloc o
  have hb := hb0 (.cells #[vc, .int .i64 c.page, vt, .int .i64 c.wk, .int .i64 c.gr, .int .i64 c.gn] 25)
  clear hb0
  have th := find_any _ c t 0 _ (hI.bel hb)
  by_cases hs : c.has t 0
  · rw [Cf.hasE_ok hs] at th
    rw [Cf.baseR_ok hs, Cf.hasE_ok hs]
    obtain ⟨t, k, rfl, -, ht, hk⟩ := Cf.has_nat hs
    have o := hs.1
    obtain ⟨p1, c1, rfl, _⟩ := nums_slice hN
    rcases hT with ⟨e, _⟩ | ⟨b2, off2, cap2, rfl, m1, m2, m3, hT⟩
    · exact absurd ht (by omega)
    have sl := fun W (g : Bel (w.alloc (.cells #[.slice p1 c.n c1, .int .i64 c.page, .slice (some ⟨b2, off2, none⟩) c.m cap2, .int .i64 c.wk, .int .i64 c.gr, .int .i64 c.gn] 25)) W) => (regions_any _ b2 off2 cap2 c.m cap2 t c W o rfl (hI.bel (hb.trans g)) (by omega) (by omega) m3 (fun j hj => (hT j (by omega)).bel (hb.trans g))).mono fun e w' ⟨a, b⟩ => (⟨a, g.trans b⟩ : _ ∧ Bel (w.alloc (.cells #[.slice p1 c.n c1, .int .i64 c.page, .slice (some ⟨b2, off2, none⟩) c.m cap2, .int .i64 c.wk, .int .i64 c.gr, .int .i64 c.gn] 25)) w')
    rw [Int.toNat_natCast]
    have tI : (t : Int) ≤ (cap2 : Int) := by omega
    have t0 : (0 : Int) ≤ (t : Int) := by omega
    have tC : t ≤ cap2 := by omega
    clear hT o hs ht hk hI hN
    generalize c.base t = S at *
    generalize c.n = n at *
    generalize c.m = m at *
    generalize c.page = pg at *
    generalize c.wk = wk at *
    generalize c.gr = gr at *
    generalize c.gn = gn at *
    go_enter Tryz.func81, Tryz.ntmps81
    go_wp2_with (go_at_call 104; refine th.mono ?_; rintro e w' ⟨rfl, hg⟩; obtain ⟨k0, k1, k2, k3, k4, k5⟩ := cf_at hg)
    go_region_held3 (fun w' => Bel (w.alloc (.cells #[.slice p1 n c1, .int .i64 pg, .slice (some ⟨b2, off2, none⟩) m cap2, .int .i64 wk, .int .i64 gr, .int .i64 gn] 25)) w' ∧ w'.cell? ⟨w.heap.size, 0, none⟩ = some (.slice p1 n c1) ∧ w'.cell? ⟨w.heap.size, 1, none⟩ = some (.int .i64 pg) ∧ w'.cell? ⟨w.heap.size, 2, none⟩ = some (.slice (some ⟨b2, off2, none⟩) m cap2) ∧ w'.cell? ⟨w.heap.size, 3, none⟩ = some (.int .i64 wk) ∧ w'.cell? ⟨w.heap.size, 4, none⟩ = some (.int .i64 gr) ∧ w'.cell? ⟨w.heap.size, 5, none⟩ = some (.int .i64 gn))
      (first | with_reducible exact keep6 (by assumption) | with_reducible exact keep6 (Bel.drew (by assumption)))
      (first | (go_at_call 117; refine (sl _ (by first | assumption | exact Bel.drew (by assumption))).mono ?_; rintro e w' ⟨rfl, hg2⟩))
    go_wp2
    go_ret2
    exact ⟨rfl, hb.trans hg2⟩
  · rw [Cf.hasE_no hs] at th
    rw [Cf.baseR_no hs, Cf.hasE_no hs]
    obtain ⟨p1, c1, rfl, b1⟩ := nums_slice hN
    obtain ⟨p2, c2, rfl, b2⟩ := tens_slice hT
    clear hN hT hs hI
    generalize c.n = n at *
    generalize c.m = m at *
    generalize c.page = pg at *
    generalize c.wk = wk at *
    generalize c.gr = gr at *
    generalize c.gn = gn at *
    go_enter Tryz.func81, Tryz.ntmps81
    go_wp2_with (go_at_call 104; refine th.mono ?_; rintro e w' ⟨rfl, hg⟩; obtain ⟨k0, k1, k2, k3, k4, k5⟩ := cf_at hg)
    go_ret2
    exact ⟨rfl, hb.trans hg⟩

set_option maxHeartbeats 1000000 in
theorem ptot_any (v : Value) (c : Cf) (w : World) (h : IsCf w v c) :
    Calls Tryz.prog 80 #[v] w fun e w' => e = .returned (.tuple #[.int .i64 c.totR, .int .i64 c.checkC]) ∧ Bel w w' := by
  have hI := h
  obtain ⟨vc, vt, rfl, hN, hT⟩ := h
  have hb0 : ∀ o, Bel w (w.alloc o) := fun o => (Bel.refl w).alloc o
  have hb := hb0 (.cells #[vc, .int .i64 c.page, vt, .int .i64 c.wk, .int .i64 c.gr, .int .i64 c.gn] 25)
  clear hb0
  have ch := pcheck_any _ c _ (hI.bel hb)
  by_cases o : c.ok
  · rw [Cf.checkC_ok o] at ch
    rw [Cf.totR_ok o, Cf.checkC_ok o]
    obtain ⟨p1, c1, rfl, _⟩ := nums_slice hN
    rcases hT with ⟨e, _⟩ | ⟨b2, off2, cap2, rfl, m1, m2, m3, hT⟩
    · exact absurd (Cf.ok_m o).1 (by omega)
    have sl := fun W (g : Bel (w.alloc (.cells #[.slice p1 c.n c1, .int .i64 c.page, .slice (some ⟨b2, off2, none⟩) c.m cap2, .int .i64 c.wk, .int .i64 c.gr, .int .i64 c.gn] 25)) W) => (regions_any _ b2 off2 cap2 c.m cap2 c.m c W o rfl (hI.bel (hb.trans g)) (Nat.le_refl _) (by omega) m3 (fun j hj => (hT j (by omega)).bel (hb.trans g))).mono fun e w' ⟨a, b⟩ => (⟨a, g.trans b⟩ : _ ∧ Bel (w.alloc (.cells #[.slice p1 c.n c1, .int .i64 c.page, .slice (some ⟨b2, off2, none⟩) c.m cap2, .int .i64 c.wk, .int .i64 c.gr, .int .i64 c.gn] 25)) w')
    clear hT o hI hN
    generalize c.base c.m = S at *
    generalize c.n = n at *
    generalize c.m = m at *
    generalize c.page = pg at *
    generalize c.wk = wk at *
    generalize c.gr = gr at *
    generalize c.gn = gn at *
    go_enter Tryz.func80, Tryz.ntmps80
    go_wp2_with (first
      | (go_at_call 116; refine ch.mono ?_; rintro e w' ⟨rfl, hg⟩; obtain ⟨k0, k1, k2, k3, k4, k5⟩ := cf_at hg)
      | (go_at_call 117; refine (sl _ (by assumption)).mono ?_; rintro e w' ⟨rfl, hg2⟩))
    go_ret2
    exact ⟨rfl, hb.trans hg2⟩
  · rw [Cf.checkC_no o] at ch
    rw [Cf.totR_no o, Cf.checkC_no o]
    obtain ⟨p1, c1, rfl, b1⟩ := nums_slice hN
    obtain ⟨p2, c2, rfl, b2⟩ := tens_slice hT
    clear hN hT o hI
    generalize c.n = n at *
    generalize c.m = m at *
    generalize c.page = pg at *
    generalize c.wk = wk at *
    generalize c.gr = gr at *
    generalize c.gn = gn at *
    go_enter Tryz.func80, Tryz.ntmps80
    go_wp2_with (go_at_call 116; refine ch.mono ?_; rintro e w' ⟨rfl, hg⟩; obtain ⟨k0, k1, k2, k3, k4, k5⟩ := cf_at hg)
    go_ret2
    exact ⟨rfl, hb.trans hg⟩

end Go.Proofs.YthokalcibjjihaaGreatDoor.mm

/- Rows of words, rows of rows, worlds that keep all but some blocks; memories as lists. Nothing of the program but for the types. -/
namespace Go.Proofs.YthokalcibjjihaaGreatDoor.mm
open Go.ChangeShapes Go.WideShapes Go.ChangeAt Go.RowKit Go.Deep

/-- a slice of words -/
def Ws (X : Nat → Prop) (w : World) (v : Value) (l : List Nat) : Prop :=
  (l = [] ∧ ∃ p cap, v = .slice p 0 cap) ∨
  ∃ b off cap, v = .slice (some ⟨b, off, none⟩) l.length cap ∧ 1 ≤ l.length ∧ l.length ≤ cap ∧ cap ≤ 9223372036854775807 ∧ ¬ X b ∧ ∀ j u, l[j]? = some u → w.cell? ⟨b, off + j, none⟩ = some (.int .u64 (u : Nat))
/-- a slice of such slices -/
def Rs (X : Nat → Prop) (w : World) (v : Value) (R : List (List Nat)) : Prop :=
  (R = [] ∧ ∃ p cap, v = .slice p 0 cap) ∨
  ∃ b off cap, v = .slice (some ⟨b, off, none⟩) R.length cap ∧ 1 ≤ R.length ∧ R.length ≤ cap ∧ cap ≤ 9223372036854775807 ∧ ¬ X b ∧ ∀ j l, R[j]? = some l → ∃ lv, w.cell? ⟨b, off + j, none⟩ = some lv ∧ Ws X w lv l
/-- the document's memory, by value -/
def IsRm (X : Nat → Prop) (w : World) (v : Value) (R : List (List Nat)) : Prop := ∃ rv, v = .agg #[rv] ∧ Rs X w rv R

theorem Ws.exc {X : Nat → Prop} {w w' : World} {v : Value} {l : List Nat} (h : Ws X w v l) (g : Exc X w w') : Ws X w' v l := by
  rcases h with h | ⟨b, off, cap, h1, h2, h3, h4, h5, h6⟩
  · exact Or.inl h
  · exact Or.inr ⟨b, off, cap, h1, h2, h3, h4, h5, fun j u hj => cell_exc g (h6 j u hj) h5⟩
theorem Rs.exc {X : Nat → Prop} {w w' : World} {v : Value} {R : List (List Nat)} (h : Rs X w v R) (g : Exc X w w') : Rs X w' v R := by
  rcases h with h | ⟨b, off, cap, h1, h2, h3, h4, h5, h6⟩
  · exact Or.inl h
  · refine Or.inr ⟨b, off, cap, h1, h2, h3, h4, h5, fun j l hj => ?_⟩
    obtain ⟨lv, c, hw⟩ := h6 j l hj
    exact ⟨lv, cell_exc g c h5, hw.exc g⟩
theorem IsRm.exc {X : Nat → Prop} {w w' : World} {v : Value} {R : List (List Nat)} (h : IsRm X w v R) (g : Exc X w w') : IsRm X w' v R := by
  obtain ⟨rv, e, h⟩ := h
  exact ⟨rv, e, h.exc g⟩
theorem Ws.bel {X : Nat → Prop} {w w' : World} {v : Value} {l : List Nat} (h : Ws X w v l) (g : Bel w w') : Ws X w' v l := h.exc g.exc
theorem Rs.bel {X : Nat → Prop} {w w' : World} {v : Value} {R : List (List Nat)} (h : Rs X w v R) (g : Bel w w') : Rs X w' v R := h.exc g.exc
theorem IsRm.bel {X : Nat → Prop} {w w' : World} {v : Value} {R : List (List Nat)} (h : IsRm X w v R) (g : Bel w w') : IsRm X w' v R := h.exc g.exc
theorem Ws.less {X Y : Nat → Prop} {w : World} {v : Value} {l : List Nat} (h : Ws X w v l) (s : ∀ k, Y k → X k) : Ws Y w v l := by
  rcases h with h | ⟨b, off, cap, h1, h2, h3, h4, h5, h6⟩
  · exact Or.inl h
  · exact Or.inr ⟨b, off, cap, h1, h2, h3, h4, fun x => h5 (s _ x), h6⟩
theorem Rs.less {X Y : Nat → Prop} {w : World} {v : Value} {R : List (List Nat)} (h : Rs X w v R) (s : ∀ k, Y k → X k) : Rs Y w v R := by
  rcases h with h | ⟨b, off, cap, h1, h2, h3, h4, h5, h6⟩
  · exact Or.inl h
  · refine Or.inr ⟨b, off, cap, h1, h2, h3, h4, fun x => h5 (s _ x), fun j l hj => ?_⟩
    obtain ⟨lv, c, hw⟩ := h6 j l hj
    exact ⟨lv, c, hw.less s⟩
theorem IsRm.less {X Y : Nat → Prop} {w : World} {v : Value} {R : List (List Nat)} (h : IsRm X w v R) (s : ∀ k, Y k → X k) : IsRm Y w v R := by
  obtain ⟨rv, e, h⟩ := h
  exact ⟨rv, e, h.less s⟩

theorem Ws.slice {X : Nat → Prop} {w : World} {v : Value} {l : List Nat} (h : Ws X w v l) : ∃ p cap, v = .slice p l.length cap ∧ l.length ≤ 9223372036854775807 := by
  rcases h with ⟨rfl, p, cap, rfl⟩ | ⟨b, off, cap, rfl, h1, h2, h3, _⟩
  · exact ⟨p, cap, rfl, by simp⟩
  · exact ⟨_, cap, rfl, by omega⟩
theorem Rs.slice {X : Nat → Prop} {w : World} {v : Value} {R : List (List Nat)} (h : Rs X w v R) : ∃ p cap, v = .slice p R.length cap ∧ R.length ≤ 9223372036854775807 := by
  rcases h with ⟨rfl, p, cap, rfl⟩ | ⟨b, off, cap, rfl, h1, h2, h3, _⟩
  · exact ⟨p, cap, rfl, by simp⟩
  · exact ⟨_, cap, rfl, by omega⟩
/-- one of the rows -/
theorem Rs.at {X : Nat → Prop} {w : World} {v : Value} {R : List (List Nat)} (h : Rs X w v R) {t : Nat} {l : List Nat} (ht : R[t]? = some l) :
    ∃ b off cap lv, v = .slice (some ⟨b, off, none⟩) R.length cap ∧ R.length ≤ cap ∧ cap ≤ 9223372036854775807 ∧ ¬ X b ∧ t < R.length ∧ w.cell? ⟨b, off + t, none⟩ = some lv ∧ Ws X w lv l := by
  have hlt := (List.getElem?_eq_some_iff.1 ht).1
  rcases h with ⟨rfl, _⟩ | ⟨b, off, cap, h1, h2, h3, h4, h5, h6⟩
  · simp at hlt
  · obtain ⟨lv, c, hw⟩ := h6 t l ht
    exact ⟨b, off, cap, lv, h1, h3, h4, h5, hlt, c, hw⟩
/-- one of the words -/
theorem Ws.at {X : Nat → Prop} {w : World} {v : Value} {l : List Nat} (h : Ws X w v l) {j u : Nat} (hj : l[j]? = some u) :
    ∃ b off cap, v = .slice (some ⟨b, off, none⟩) l.length cap ∧ l.length ≤ cap ∧ cap ≤ 9223372036854775807 ∧ ¬ X b ∧ j < l.length ∧ w.cell? ⟨b, off + j, none⟩ = some (.int .u64 (u : Nat)) := by
  have hlt := (List.getElem?_eq_some_iff.1 hj).1
  rcases h with ⟨rfl, _⟩ | ⟨b, off, cap, h1, h2, h3, h4, h5, h6⟩
  · simp at hlt
  · exact ⟨b, off, cap, h1, h3, h4, h5, hlt, h6 j u hj⟩

end Go.Proofs.YthokalcibjjihaaGreatDoor.mm

/- In and Load of the document's memories. -/
namespace Go.Proofs.YthokalcibjjihaaGreatDoor.mm
open Go.ChangeShapes Go.WideShapes Go.ChangeAt Go.RowKit Go.Deep

set_option maxHeartbeats 1000000 in
theorem in_any (X : Nat → Prop) (v : Value) (R : List (List Nat)) (t a : Int) (w : World) (h : IsRm X w v R) :
    Calls Tryz.prog 51 #[v, .int .i64 t, .int .i64 a] w fun e w' => e = .returned (.int .i64 (inE R t a)) ∧ Bel w w' := by
  obtain ⟨rv, rfl, hR⟩ := h
  have hb : ∀ o, Bel w (w.alloc o) := fun o => (Bel.refl w).alloc o
  by_cases t1 : t < 0
  · have e : inE R t a = 2 := if_pos (Or.inl t1)
    rw [e]
    obtain ⟨p, cap, rfl, bd⟩ := hR.slice
    clear hR e
    generalize R.length = m at *
    go_enter Tryz.func51, Tryz.ntmps51
    go_wp2
    go_ret
    exact ⟨rfl, hb _⟩
  · by_cases t2 : (R.length : Int) ≤ t
    · have e : inE R t a = 2 := if_pos (Or.inr t2)
      rw [e]
      obtain ⟨p, cap, rfl, bd⟩ := hR.slice
      have d1 : decide (t < 0) = false := decide_eq_false t1
      clear hR e t1
      generalize R.length = m at *
      go_enter Tryz.func51, Tryz.ntmps51
      go_wp2
      go_ret
      exact ⟨rfl, hb _⟩
    · obtain ⟨n, rfl⟩ : ∃ n : Nat, t = n := ⟨t.toNat, by omega⟩
      have hn : n < R.length := by omega
      obtain ⟨b, off, cap, lv, rfl, k1, k2, k3, k4, c, hw⟩ := hR.at (List.getElem?_eq_getElem hn)
      have el : R.getD n [] = R[n] := by rw [List.getD_eq_getElem?_getD, List.getElem?_eq_getElem hn]; rfl
      have e0 : inE R n a = if a < 0 ∨ ((R[n]).length : Int) ≤ a then 4 else 0 := by
        unfold inE
        rw [if_neg (by omega), Int.toNat_natCast, el]
      rw [e0]
      obtain ⟨p2, cap2, rfl, bd2⟩ := hw.slice
      have d1 : decide ((n : Int) < 0) = false := decide_eq_false t1
      have d2 : decide ((R.length : Int) ≤ (n : Int)) = false := decide_eq_false t2
      have kI : (n : Int) < (R.length : Int) := by omega
      have kz : (0 : Int) ≤ (n : Int) := by omega
      have C1 := cell_bel (hb (.cells #[.slice (some ⟨b, off, none⟩) R.length cap] 31)) c
      clear hR hw el e0 t1 t2 c
      generalize (R[n]).length = ln at *
      generalize R.length = m at *
      by_cases a1 : a < 0
      · rw [if_pos (Or.inl a1)]
        go_enter Tryz.func51, Tryz.ntmps51
        go_wp2
        go_ret
        exact ⟨rfl, hb _⟩
      · have d3 : decide (a < 0) = false := decide_eq_false a1
        by_cases a2 : (ln : Int) ≤ a
        · rw [if_pos (Or.inr a2)]
          clear a1
          go_enter Tryz.func51, Tryz.ntmps51
          go_wp2
          go_ret
          exact ⟨rfl, hb _⟩
        · rw [if_neg (by omega)]
          have d4 : decide ((ln : Int) ≤ a) = false := decide_eq_false a2
          clear a1
          go_enter Tryz.func51, Tryz.ntmps51
          go_wp2
          go_ret
          exact ⟨rfl, hb _⟩

/-theorem rm_cell {X : Nat → Prop} {w : World} {v : Value} {R : List (List Nat)} (h : IsRm X w v R) (ht : Till X w) (t : TypeId) {w1 : World} (g : Bel (w.alloc (.cells #[v] t)) w1) : w1.cell? ⟨w.heap.size, 0, none⟩ = some v := agg_at g 0 -/

set_option maxHeartbeats 1000000 in
theorem load_any (X : Nat → Prop) (v : Value) (R : List (List Nat)) (t a : Int) (w : World) (h : IsRm X w v R) :
    Calls Tryz.prog 119 #[v, .int .i64 t, .int .i64 a] w fun e w' => e = .returned (.tuple #[.int .u64 (loadR R t a : Nat), .int .i64 (inE R t a)]) ∧ Bel w w' := by
  have hb : ∀ o, Bel w (w.alloc o) := fun o => (Bel.refl w).alloc o
  have hI := h
  obtain ⟨rv, rfl, hR⟩ := h
  have ii := fun o => in_any X _ R t a (w.alloc o) (hI.bel (hb o))
  by_cases z : inE R t a = 0
  · obtain ⟨t', a', l, u, rfl, rfl, h1, h2, h3, h4⟩ := inE_ok z
    have e1 : loadR R t' a' = u := by unfold loadR; rw [if_pos z, Int.toNat_natCast, Int.toNat_natCast, h3, h4]
    rw [e1]
    rw [z] at ii ⊢
    obtain ⟨b, off, cap, lv, rfl, k1, k2, k3, k4, c, hw⟩ := hR.at h1
    obtain ⟨b2, off2, cap2, rfl, j1, j2, j3, j4, c2⟩ := hw.at h2
    have kI : (t' : Int) < (R.length : Int) := by omega
    have kz : (0 : Int) ≤ (t' : Int) := by omega
    have lI : (a' : Int) < (l.length : Int) := by omega
    have lz : (0 : Int) ≤ (a' : Int) := by omega
    clear hR hw h1 h2 h3 h4 e1 z hI
    generalize R.length = m at *
    generalize l.length = n at *
    go_enter Tryz.func119, Tryz.ntmps119
    go_wp2_with (go_at_call 51; refine (ii _).mono ?_; rintro e w' ⟨rfl, hg⟩; have i0 := agg_at hg 0; have C1 := cell_bel ((hb _).trans hg) c; have C2 := cell_bel ((hb _).trans hg) c2)
    go_ret2
    exact ⟨rfl, (hb _).trans hg⟩
  · have e1 : loadR R t a = 0 := if_neg z
    rw [e1]
    have z2 : (inE R t a != 0) = true := by rw [bne_iff_ne]; exact z
    obtain ⟨p, cap, rfl, bd⟩ := hR.slice
    clear hR e1 hI
    generalize inE R t a = E at *
    generalize R.length = m at *
    go_enter Tryz.func119, Tryz.ntmps119
    go_wp2_with (go_at_call 51; refine (ii _).mono ?_; rintro e w' ⟨rfl, hg⟩)
    go_ret2
    exact ⟨rfl, (hb _).trans hg⟩

end Go.Proofs.YthokalcibjjihaaGreatDoor.mm

/- Rows of words that the call owns; append of one row, of words; laws for the walk. -/
namespace Go.Proofs.YthokalcibjjihaaGreatDoor.mm
open Go.ChangeShapes Go.WideShapes Go.ChangeAt Go.RowKit Go.Deep

theorem size_alloc1 (w : World) (o : Obj) : (w.alloc o).heap.size = w.heap.size + 1 := by show (w.heap.push o).size = _; simp
theorem info_u64 : (Tryz.prog.info? 42).map (fun i => (i.zero, i.size, i.bytes)) = some (some (.int .u64 0), 1, 8) := by kernel_rfl
theorem info_ws : (Tryz.prog.info? 49).map (fun i => (i.zero, i.size, i.bytes)) = some (some (.slice none 0 0), 1, 24) := by kernel_rfl
/-- words as values -/
def uL (l : List Nat) : List Value := l.map fun u => .int .u64 (u : Nat)
theorem uL_len (l : List Nat) : (uL l).length = l.length := List.length_map _
theorem uL_get {l : List Nat} {j u : Nat} (h : l[j]? = some u) : (uL l)[j]? = some (.int .u64 (u : Nat)) := by unfold uL; rw [List.getElem?_map, h]; rfl
theorem uL_one (l : List Nat) : ∀ u ∈ uL l, u.oneCell' = true := by
  intro u hu
  unfold uL at hu
  obtain ⟨j, _, rfl⟩ := List.mem_map.1 hu
  rfl
theorem uL_app (a b : List Nat) : uL a ++ uL b = uL (a ++ b) := (List.map_append ..).symm
theorem uL_set (l : List Nat) (a u : Nat) : (uL l).set a (.int .u64 (u : Nat)) = uL (l.set a u) := by unfold uL; rw [List.map_set]

/-- words that the call owns -/
def Own64 (B : Nat) (w : World) (v : Value) (l : List Nat) : Prop := w.ownsRow B 42 1 v l.length (uL l)
theorem Own64.ws {X : Nat → Prop} {B : Nat} {w : World} {v : Value} {l : List Nat} (h : Own64 B w v l) (hx : ∀ k, B ≤ k → v.ownBlock = some k → ¬ X k) : Ws X w v l := by
  have h' := h
  rcases h.2 with ⟨rfl, h0⟩ | ⟨g, cap, cur, rfl, hb, hg, hn, hm, hs, _⟩
  · exact Or.inl ⟨List.length_eq_zero_iff.1 h0, _, _, rfl⟩
  · by_cases c : l.length = 0
    · exact Or.inl ⟨List.length_eq_zero_iff.1 c, _, _, by rw [c]⟩
    · refine Or.inr ⟨g, 0, cap, rfl, by omega, hn, by unfold maxLen at hm; omega, hx g hb rfl, fun j u hj => ?_⟩
      have hj' := (List.getElem?_eq_some_iff.1 hj).1
      have e := World.ownsRow.cellAt h' j (by omega)
      rw [Nat.zero_add, e]
      exact uL_get hj

/-- where words are read -/
theorem Ws.news {X : Nat → Prop} {w : World} {b off cap : Nat} {l : List Nat} (h : ∀ (j u : Nat), l[j]? = some u → w.cell? ⟨b, off + j, none⟩ = some (.int .u64 (u : Nat))) : ∀ j u, (uL l)[j]? = some u → w.cell? ((⟨b, off, none⟩ : Addr).add j) = some u := by
  intro j u hu
  rw [add_plain]
  unfold uL at hu
  rw [List.getElem?_map] at hu
  cases e : l[j]? with
  | none => rw [e] at hu; cases hu
  | some x => rw [e] at hu; cases hu; exact h j x e

/-- words appended to words that the call owns -/
theorem wpList_appW {X : Nat → Prop} {ops : Array Oper} {rest : List Oper} {o : Oper} {a : Act} {Q : Exit → Act → World → Prop} {w : World} (hgd : o.guard = none) (s x : Operand)
    (ho : o.op = .call { callee := .builtin .append, args := #[s, x], argTypes := #[49, 49] })
    (B : Nat) (v : Value) (l : List Nat) (hs : a.eval s = v) (hown : Own64 B w v l) (u : Value) (k : List Nat) (hx : a.eval x = u) (hu : Ws X w u k) (hk : 1 ≤ k.length) (hn : l.length + k.length ≤ 1000000) (hB : B ≤ w.heap.size)
    (h : ∀ g n cap w', n = l.length + k.length → Own64 B w' (.slice (some ⟨g, 0, none⟩) n cap) (l ++ k) → w.grownBy w' v.ownBlock → (v.ownBlock = some g ∨ g = w.heap.size) → wpList Tryz.prog ops Q rest (a.put o.dst (.slice (some ⟨g, 0, none⟩) n cap)) w') :
    wpList Tryz.prog ops Q (o :: rest) a w := by
  obtain ⟨i0, hi, hz0, hz1, hz2⟩ := info_parts info_u64
  rcases hu with ⟨rfl, _⟩ | ⟨b, off, cap, rfl, h1, h2, h3, h4, h5⟩
  · simp at hk
  · refine wpList_append_lies (P := Tryz.prog) w hgd s x 49 ho B 42 i0 (.int .u64 0) 1 8 Tryz.underlying49 hi hz0 hz1 hz2 rfl (by decide) v l.length (uL l) hs hown ⟨b, off, none⟩ k.length cap (uL k) hx (by rw [uL_len]; omega) (Ws.news (X := X) (cap := cap) h5) (uL_one k) (by omega) (by unfold maxLen; omega) (by omega) hB w.heap.size rfl ?_
    intro g cap' w' hown' hgrow hat hlt
    have el : (l ++ k).length = l.length + k.length := List.length_append
    rw [uL_app] at hown'
    refine h g _ cap' w' rfl ?_ hgrow hat
    unfold Own64
    rw [el]
    exact hown'

/-- rows that the call owns -/
def Orow (Y : Nat → Prop) (B : Nat) (w : World) (v : Value) (R : List (List Nat)) : Prop :=
  ∃ xs : List Value, w.ownsRow B 49 1 v R.length xs ∧ ∀ (j : Nat) (l : List Nat), R[j]? = some l → ∃ lv, xs[j]? = some lv ∧ Ws (fun b => Y b ∨ v.ownBlock = some b) w lv l

theorem Orow.nil (Y : Nat → Prop) (B : Nat) (w : World) : Orow Y B w (.slice none 0 0) [] := ⟨[], World.ownsRow_nil w B _ _, fun j l h => by simp at h⟩
theorem Orow.lt {Y : Nat → Prop} {B : Nat} {w : World} {v : Value} {R : List (List Nat)} (h : Orow Y B w v R) : ∀ k, v.ownBlock = some k → B ≤ k ∧ k < w.heap.size := by
  obtain ⟨xs, h, _⟩ := h
  exact h.lt
theorem Orow.shape {Y : Nat → Prop} {B : Nat} {w : World} {v : Value} {R : List (List Nat)} (h : Orow Y B w v R) : ∃ p cap, v = .slice p R.length cap := by
  obtain ⟨xs, h, _⟩ := h
  rcases h.2 with ⟨rfl, h0⟩ | ⟨g, cap, cur, rfl, _⟩
  · exact ⟨_, _, by rw [h0]⟩
  · exact ⟨_, _, rfl⟩
theorem Orow.rs {X Y : Nat → Prop} {B : Nat} {w : World} {v : Value} {R : List (List Nat)} (h : Orow Y B w v R) (hx : ∀ k, B ≤ k → ¬ X k) (hs : ∀ k, X k → Y k) : Rs X w v R := by
  obtain ⟨xs, h, hr⟩ := h
  have h' := h
  rcases h.2 with ⟨rfl, h0⟩ | ⟨g, cap, cur, rfl, hb, hg, hn, hm, hsz, _⟩
  · exact Or.inl ⟨List.length_eq_zero_iff.1 h0, _, _, rfl⟩
  · by_cases c : R.length = 0
    · exact Or.inl ⟨List.length_eq_zero_iff.1 c, _, _, by rw [c]⟩
    · refine Or.inr ⟨g, 0, cap, rfl, by omega, hn, by unfold maxLen at hm; omega, hx g hb, fun j l hj => ?_⟩
      have hj' := (List.getElem?_eq_some_iff.1 hj).1
      obtain ⟨lv, e, hw⟩ := hr j l hj
      refine ⟨lv, ?_, hw.less fun k hk => Or.inl (hs k hk)⟩
      rw [Nat.zero_add, World.ownsRow.cellAt h' j (by omega), e]
/-- what the row's owner does elsewhere -/
theorem Orow.exc {Y Z : Nat → Prop} {B : Nat} {w w' : World} {v : Value} {R : List (List Nat)} (h : Orow Y B w v R) (g : Exc Z w w') (hz : ∀ k, Z k → Y k) (hB : ∀ k, Z k → k < B) : Orow Y B w' v R := by
  obtain ⟨xs, h, hr⟩ := h
  refine ⟨xs, ⟨h.1, ?_⟩, fun j l hj => ?_⟩
  · rcases h.2 with hn | ⟨g', cap, cur, rfl, hb, hg, rest⟩
    · exact Or.inl hn
    · exact Or.inr ⟨g', cap, cur, rfl, hb, (g.block g' (Array.getElem?_eq_some_iff.1 hg).1 fun x => by have := hB g' x; omega).trans hg, rest⟩
  · obtain ⟨lv, e, hw⟩ := hr j l hj
    rcases hw with hw | ⟨b, off, cap, h1, h2, h3, h4, h5, h6⟩
    · exact ⟨lv, e, Or.inl hw⟩
    · exact ⟨lv, e, Or.inr ⟨b, off, cap, h1, h2, h3, h4, h5, fun j u hj => cell_exc g (h6 j u hj) fun x => h5 (Or.inl (hz _ x))⟩⟩
theorem Orow.bel {Y : Nat → Prop} {B : Nat} {w w' : World} {v : Value} {R : List (List Nat)} (h : Orow Y B w v R) (g : Bel w w') : Orow Y B w' v R :=
  h.exc (Z := fun _ => False) g.exc (fun _ x => x.elim) (fun _ x => x.elim)

/-- one row more -/
theorem Orow.push {Y : Nat → Prop} {B : Nat} {w w' : World} {v v' lv : Value} {xs : List Value} {R : List (List Nat)} {l : List Nat} {g : Nat} (hr : ∀ (j : Nat) (l : List Nat), R[j]? = some l → ∃ lv, xs[j]? = some lv ∧ Ws (fun b => Y b ∨ v.ownBlock = some b) w lv l)
    (hlen : xs.length = R.length) (hl : Ws (fun b => Y b ∨ v.ownBlock = some b) w lv l) (hgrow : w.grownBy w' v.ownBlock) (hv : v'.ownBlock = some g) (hat : v.ownBlock = some g ∨ g = w.heap.size)
    (hown : w'.ownsRow B 49 1 v' (R.length + 1) (xs ++ [lv])) : Orow Y B w' v' (R ++ [l]) := by
  have mv : ∀ (u : Value) (k : List Nat), Ws (fun b => Y b ∨ v.ownBlock = some b) w u k → Ws (fun b => Y b ∨ v'.ownBlock = some b) w' u k := by
    rintro u k (hw | ⟨b, off, cap, h1, h2, h3, h4, h5, h6⟩)
    · exact Or.inl hw
    · refine Or.inr ⟨b, off, cap, h1, h2, h3, h4, ?_, fun j x hj => hgrow.cell (h6 j x hj) fun e => h5 (Or.inr e.symm)⟩
      have hb : b < w.heap.size := by
        obtain ⟨x, hx⟩ : ∃ x, k[0]? = some x := ⟨k[0], List.getElem?_eq_getElem (by omega)⟩
        exact (cell_block (h6 0 x hx)).1
      rintro (x | x)
      · exact h5 (Or.inl x)
      · rw [hv] at x
        injection x with x
        rcases hat with e | e
        · exact h5 (Or.inr (by rw [e, x]))
        · omega
  refine ⟨xs ++ [lv], by rw [List.length_append]; exact hown, fun j k hj => ?_⟩
  by_cases c : j < R.length
  · rw [List.getElem?_append_left c] at hj
    obtain ⟨u, e, hw⟩ := hr j k hj
    exact ⟨u, by rw [List.getElem?_append_left (by omega)]; exact e, mv u k hw⟩
  · have hj2 := (List.getElem?_eq_some_iff.1 hj).1
    rw [List.length_append] at hj2
    simp at hj2
    have ej : j = R.length := by omega
    subst ej
    simp at hj
    subst hj
    exact ⟨lv, by rw [← hlen]; simp, mv lv _ hl⟩

section
variable {Y : Nat → Prop} {ops : Array Oper} {rest : List Oper} {o : Oper} {a : Act} {Q : Exit → Act → World → Prop} {w : World}
/-- the made slice of one row, appended: at the operation -/
theorem wp_pushG {K : Act → World → Prop} (s x : Operand)
    (ho : o.op = .call { callee := .builtin .append, args := #[s, x], argTypes := #[29, 29] })
    (B : Nat) (v lv : Value) (R : List (List Nat)) (l : List Nat) (g0 : Nat) (hs : a.eval s = v) (hO : Orow Y B w v R) (hx : a.eval x = .slice (some ⟨g0, 0, none⟩) 1 1) (hb : w.heap[g0]? = some (.cells #[lv] 49 (0, 0))) (hl : Ws (fun b => Y b ∨ v.ownBlock = some b) w lv l) (hk : R.length ≤ 1000) (hB : B ≤ w.heap.size)
    (h : ∀ p n cap w', Orow Y B w' (.slice p n cap) (R ++ [l]) → Below B w w' → K (a.put o.dst (.slice p n cap)) w') :
    o.wp Tryz.prog a w K Q := by
  obtain ⟨i0, hi, hz0, hz1, hz2⟩ := info_parts info_ws
  obtain ⟨xs, hown, hr⟩ := hO
  obtain ⟨pl, cl, rfl, _⟩ := hl.slice
  refine wp_append_lies (P := Tryz.prog) w s x 29 ho B 49 i0 _ 1 24 Tryz.underlying29 hi hz0 hz1 hz2 rfl (by decide) v R.length xs hs hown ⟨g0, 0, none⟩ 1 1 [.slice pl l.length cl] hx rfl (World.news_of_block (cs := #[.slice pl l.length cl]) (t := 49) (fr := (0, 0)) hb) (by simp [Value.oneCell']) (by omega) (by unfold maxLen; omega) (by omega) hB w.heap.size rfl ?_
  intro g cap w' hown' hgrow hat hlt
  have el : (R ++ [l]).length = R.length + 1 := by simp
  have hlen : xs.length = R.length := by have := hown.1; omega
  exact h _ _ _ _ (Orow.push (v' := .slice (some ⟨g, 0, none⟩) (R.length + 1) cap) hr hlen hl hgrow rfl hat hown') (Below.grown (Below.refl B w) hgrow hB fun k hk => (hown.lt k hk).1)
theorem wpList_pushG (hgd : o.guard = none) (s x : Operand)
    (ho : o.op = .call { callee := .builtin .append, args := #[s, x], argTypes := #[29, 29] })
    (B : Nat) (v lv : Value) (R : List (List Nat)) (l : List Nat) (g0 : Nat) (hs : a.eval s = v) (hO : Orow Y B w v R) (hx : a.eval x = .slice (some ⟨g0, 0, none⟩) 1 1) (hb : w.heap[g0]? = some (.cells #[lv] 49 (0, 0))) (hl : Ws (fun b => Y b ∨ v.ownBlock = some b) w lv l) (hk : R.length ≤ 1000) (hB : B ≤ w.heap.size)
    (h : ∀ p n cap w', Orow Y B w' (.slice p n cap) (R ++ [l]) → Below B w w' → wpList Tryz.prog ops Q rest (a.put o.dst (.slice p n cap)) w') :
    wpList Tryz.prog ops Q (o :: rest) a w :=
  wpList_plain hgd fun _ hK => wp_pushG s x ho B v lv R l g0 hs hO hx hb hl hk hB fun p n cap w' h1 h2 => hK _ _ (h p n cap w' h1 h2)
theorem step_pushG {K : Act → World → Prop} {E : Prop} (hgd : o.guard = none) (s x : Operand)
    (ho : o.op = .call { callee := .builtin .append, args := #[s, x], argTypes := #[29, 29] })
    (B : Nat) (v lv : Value) (R : List (List Nat)) (l : List Nat) (g0 : Nat) (hs : a.eval s = v) (hO : Orow Y B w v R) (hx : a.eval x = .slice (some ⟨g0, 0, none⟩) 1 1) (hb : w.heap[g0]? = some (.cells #[lv] 49 (0, 0))) (hl : Ws (fun b => Y b ∨ v.ownBlock = some b) w lv l) (hk : R.length ≤ 1000) (hB : B ≤ w.heap.size)
    (h : ∀ p n cap w', Orow Y B w' (.slice p n cap) (R ++ [l]) → Below B w w' → K (a.put o.dst (.slice p n cap)) w') :
    if Region.wanted o (yielded ops a.tmps) = true then Oper.wp Tryz.prog o a w K Q else E := by
  have hw : Region.wanted o (yielded ops a.tmps) = true := by simp [Region.wanted, hgd]
  rw [if_pos hw]
  exact wp_pushG s x ho B v lv R l g0 hs hO hx hb hl hk hB h
/-- at the walk: behind the making -/
theorem wpList_push (hgd : o.guard = none) (s x : Operand)
    (ho : o.op = .call { callee := .builtin .append, args := #[s, x], argTypes := #[29, 29] })
    (B : Nat) (v lv : Value) (R : List (List Nat)) (l : List Nat) (hs : a.eval s = v) (hO : Orow Y B w v R) (hx : a.eval x = .slice (some ⟨w.heap.size, 0, none⟩) 1 1) (hl : Ws (fun b => Y b ∨ v.ownBlock = some b) w lv l) (hk : R.length ≤ 1000) (hB : B ≤ w.heap.size)
    (h : ∀ p n cap w', Orow Y B w' (.slice p n cap) (R ++ [l]) → Below B w w' → wpList Tryz.prog ops Q rest (a.put o.dst (.slice p n cap)) w') :
    wpList Tryz.prog ops Q (o :: rest) a (w.alloc (.cells #[lv] 49)) := by
  have g := (Bel.refl w).alloc (.cells #[lv] 49)
  exact wpList_pushG hgd s x ho B v lv R l w.heap.size hs (hO.bel g) hx (heap_alloc_new w _) (hl.bel g) hk (by rw [size_alloc1]; omega) fun p n cap w' h1 h2 => h p n cap w' h1 (Below.trans (g.mono hB) h2)
end

end Go.Proofs.YthokalcibjjihaaGreatDoor.mm

/- One word turned, of the document's memories: with, Store. -/
namespace Go.Proofs.YthokalcibjjihaaGreatDoor.mm
open Go.ChangeShapes Go.WideShapes Go.ChangeAt Go.RowKit Go.Deep
set_option linter.unusedVariables false

theorem info_rm : (Tryz.prog.info? 31).map (·.size) = some 1 := by kernel_rfl

/-- a box of one cell, turned -/
theorem box_store {w : World} {b : Nat} {ov x : Value} {t : TypeId} (h : w.heap[b]? = some (.cells #[ov] t (0, 0))) :
    w.frozen? ⟨b, 0, none⟩ = false ∧ w.cell? ⟨b, 0, none⟩ = some ov ∧ ∃ W, w.setCell ⟨b, 0, none⟩ x = W ∧ W.heap[b]? = some (.cells #[x] t (0, 0)) ∧ W.cell? ⟨b, 0, none⟩ = some x ∧ Exc (fun k => k = b) w W := by
  have s := heap_setCell_same w b 0 _ t x h
  refine ⟨frozen_of_row _ _ 0 _ t h, cell_of_row w b 0 _ t (0, 0) h, _, rfl, s, cell_of_row _ b 0 _ t (0, 0) s, ⟨rfl, rfl, rfl, ?_, fun k _ hk => heap_setCell_other w _ k x hk⟩⟩
  exact (Below.setCell (Below.refl 0 w) (Nat.zero_le _) _).size
theorem box_at {w W : World} {o : Obj} (h : Bel (w.alloc o) W) : W.heap[w.heap.size]? = some o := by
  rw [h.block _ (by rw [size_alloc1]; omega)]
  exact heap_alloc_new w o

/-- what lay there lies below what is made -/
theorem Ws.old {X : Nat → Prop} {w : World} {v : Value} {l : List Nat} (h : Ws X w v l) : Ws (fun b => X b ∨ w.heap.size ≤ b) w v l := by
  rcases h with h | ⟨b, off, cap, h1, h2, h3, h4, h5, h6⟩
  · exact Or.inl h
  · refine Or.inr ⟨b, off, cap, h1, h2, h3, h4, ?_, h6⟩
    have hb := (cell_block (h6 0 l[0] (List.getElem?_eq_getElem (by omega)))).1
    rintro (x | x)
    · exact h5 x
    · dsimp at hb; omega
theorem Rs.old {X : Nat → Prop} {w : World} {v : Value} {R : List (List Nat)} (h : Rs X w v R) : Rs (fun b => X b ∨ w.heap.size ≤ b) w v R := by
  rcases h with h | ⟨b, off, cap, h1, h2, h3, h4, h5, h6⟩
  · exact Or.inl h
  · refine Or.inr ⟨b, off, cap, h1, h2, h3, h4, ?_, fun j l hj => ?_⟩
    · obtain ⟨lv, c, _⟩ := h6 0 R[0] (List.getElem?_eq_getElem (by omega))
      have hb := (cell_block c).1
      rintro (x | x)
      · exact h5 x
      · dsimp at hb; omega
    · obtain ⟨lv, c, hw⟩ := h6 j l hj
      exact ⟨lv, c, hw.old⟩
theorem Below.exc {B : Nat} {w w' : World} (h : Below B w w') {X : Nat → Prop} : Exc (fun b => X b ∨ B ≤ b) w w' := ⟨h.os, h.tape, h.output, h.size, fun k _ hx => h.block k (by
  rcases Nat.lt_or_ge k B with c | c
  · exact c
  · exact absurd (Or.inr c) hx)⟩

theorem setR_at {R : List (List Nat)} {t a u k : Nat} {l : List Nat} (h : R[k]? = some l) (hk : k ≠ t) : (setR R t a u)[k]? = some l := by
  unfold setR; rw [List.getElem?_set, if_neg (fun e => hk e.symm)]; exact h
theorem setR_here {R : List (List Nat)} {t a u : Nat} {l : List Nat} (h : R[t]? = some l) : (setR R t a u)[t]? = some (l.set a u) := by
  have e : R.getD t [] = l := by rw [List.getD_eq_getElem?_getD, h]; rfl
  unfold setR; rw [List.getElem?_set, if_pos rfl, if_pos (List.getElem?_eq_some_iff.1 h).1, e]
theorem take_more {R : List (List Nat)} {k : Nat} {l : List Nat} (h : R[k]? = some l) : R.take (k + 1) = R.take k ++ [l] := by rw [List.take_add_one, h]; rfl

/-- three boxes of a memory each, made -/
theorem three_made (w : World) (a b c : Obj) : (((w.alloc a).alloc b).alloc c).heap[w.heap.size]? = some a ∧ (((w.alloc a).alloc b).alloc c).heap[w.heap.size + 1]? = some b ∧ (((w.alloc a).alloc b).alloc c).heap[w.heap.size + 2]? = some c ∧ (((w.alloc a).alloc b).alloc c).heap.size = w.heap.size + 3 := by
  have s1 := size_alloc1 w a
  have s2 := size_alloc1 (w.alloc a) b
  have s3 := size_alloc1 ((w.alloc a).alloc b) c
  have g3 := (Bel.refl ((w.alloc a).alloc b)).alloc c
  have g2 := ((Bel.refl (w.alloc a)).alloc b).alloc c
  have e1 := box_at (w := w) (o := a) g2
  have e2 := box_at (w := w.alloc a) (o := b) g3
  have e3 := box_at (w := (w.alloc a).alloc b) (o := c) (Bel.refl _)
  rw [s1] at e2
  rw [s2, s1] at e3
  exact ⟨e1, e2, e3, by omega⟩

set_option maxRecDepth 100000 in
set_option maxHeartbeats 2000000 in
theorem with_any (X : Nat → Prop) (rv : Value) (R : List (List Nat)) (t a u : Nat) (l : List Nat) (w : World) (hR : Rs X w rv R) (hX : Till X w) (h1 : R[t]? = some l) (h2 : a < l.length) (hm : R.length ≤ 1000) (hl : l.length ≤ 100000) :
    Calls Tryz.prog 52 #[.agg #[rv], .int .i64 (t : Nat), .int .i64 (a : Nat), .int .u64 (u : Nat)] w fun e w' => (∃ v', e = .returned v' ∧ IsRm X w' v' (setR R t a u)) ∧ Bel w w' := by
  obtain ⟨m0, m1, m2, m3⟩ := three_made w (.cells #[rv] 31) (.cells #[.slice none 0 0] 31) (.cells #[.slice none 0 0] 31)
  have g3 := (((Bel.refl w).alloc (.cells #[rv] 31)).alloc (.cells #[.slice none 0 0] 31)).alloc (.cells #[.slice none 0 0] 31)
  have ht := (List.getElem?_eq_some_iff.1 h1).1
  have hid := Lib.hid (And.intro hR.old (And.intro hX (And.intro h1 (And.intro hm (And.intro hl g3)))))
  have hidm := Lib.hid (And.intro m0 (And.intro m1 (And.intro m2 m3)))
  obtain ⟨p, cap, rfl, bd⟩ := hR.slice
  obtain ⟨m, hmm⟩ : ∃ m, R.length = m := ⟨_, rfl⟩
  rw [hmm] at hid hidm bd ht
  clear hR hX h1 hm hl g3 m0 m1 m2 m3
  rw [hmm]
  go_enter Tryz.func52, Tryz.ntmps52
  go_wp2
  go_loopw [10] (fun i wr => ∃ (k : Nat) (ov : Value), k ≤ m ∧ i = .int .i64 (k : Nat) ∧ Below (w.heap.size + 2) (((w.alloc (.cells #[.slice p m cap] 31)).alloc (.cells #[.slice none 0 0] 31)).alloc (.cells #[.slice none 0 0] 31)) wr ∧ wr.heap[w.heap.size + 2]? = some (.cells #[ov] 31 (0, 0)) ∧ Orow (fun b => X b ∨ b = w.heap.size + 1 ∨ b = w.heap.size + 2) (w.heap.size + 3) wr ov ((setR R t a u).take k)) (fun i _ => m - (intOf i).toNat)
  case atStart => exact ⟨0, _, Nat.zero_le _, rfl, Below.refl _ _, hidm.out.2.2.1, Orow.nil _ _ _⟩
  case round =>
    obtain ⟨k, ov, hk, rfl, hbw, hbx, hO⟩ := hrel
    have hs := hidm.out.2.2.2
    have sz := hbw.size
    have c0 : wr.cell? ⟨w.heap.size, 0, none⟩ = some (.slice p m cap) := cell_of_row _ _ 0 _ _ (0, 0) ((hbw.block _ (by omega)).trans hidm.out.1)
    have e0 : Below w.heap.size w wr := Below.trans hid.out.2.2.2.2.2 (hbw.mono (by omega))
    by_cases ck : k < m
    · have hRs := hid.out.1.exc (Below.exc (X := X) e0)
      obtain ⟨lk, hlk⟩ : ∃ lk, R[k]? = some lk := ⟨R[k], List.getElem?_eq_getElem (by omega)⟩
      obtain ⟨b, off, cap', lv, ev, j1, j2, j3, j4, c, hw⟩ := hRs.at hlk
      injection ev with ev1 ev2 ev3
      clear ev2
      subst ev1; subst ev3
      obtain ⟨pl, cl, rfl, bdl⟩ := hw.slice
      have kI : (k : Int) < (m : Int) := by omega
      have kz : (0 : Int) ≤ (k : Int) := by omega
      have hlt := hO.lt
      have hwY : Ws (fun b => (X b ∨ b = w.heap.size + 1 ∨ b = w.heap.size + 2) ∨ ov.ownBlock = some b) wr (.slice pl lk.length cl) lk := hw.less fun x hx => by
        rcases hx with (hx | hx | hx) | hx
        · exact Or.inl hx
        · exact Or.inr (by omega)
        · exact Or.inr (by omega)
        · exact Or.inr (by have := (hlt x hx).1; omega)
      have hQ : ((setR R t a u).take k).length ≤ 1000 := by rw [List.length_take]; have := hid.out.2.2.2.1; omega
      by_cases e : k = t
      · subst e
        have el : lk = l := Option.some.inj (hlk.symm.trans hid.out.2.2.1)
        subst el
        have aI : (a : Int) < (lk.length : Int) := by omega
        have az : (0 : Int) ≤ (a : Int) := by omega
        have hst := setR_here (a := a) (u := u) hlk
        have hidO := Lib.hid (And.intro hO (And.intro hw (And.intro hQ hlt)))
        have hidT := Lib.hid (take_more hst)
        obtain ⟨x0, hx0⟩ : ∃ x0, lk[a]? = some x0 := ⟨lk[a], List.getElem?_eq_getElem h2⟩
        have hidx := Lib.hid (And.intro hx0 h2)
        clear hO hwY hQ hst hRs hw hlk hlt hx0
        have cx := cell_of_row _ _ 0 _ _ (0, 0) hbx
        go_wp2_with (first
          | (at_builtin
             refine wpList_appW rfl (.tmp 27) (.tmp 28) rfl wr.heap.size _ [] rfl (World.ownsRow_made wr #[] 0 (Nat.le_refl _) (Nat.zero_le _) rfl) _ lk rfl (hidO.out.2.1.bel ((Bel.refl wr).alloc _)) (by have := hidx.out.2; omega) (by have := hid.out.2.2.2.2.1; simp; omega) (by rw [size_alloc1]; omega) ?_
             intro g n1 cap2 w1 hn1 hO1 hg1 hat1
             obtain rfl : n1 = lk.length := by simpa using hn1
             have hO2 : Own64 wr.heap.size w1 (.slice (some ⟨g, 0, none⟩) lk.length cap2) lk := by simpa using hO1
             have hge : wr.heap.size ≤ g := (hO2.lt g rfl).1
             have hB1 : Bel wr w1 := Below.grown ((Bel.refl wr).alloc (.cells #[] 42)) hg1 (by rw [size_alloc1]; omega) (fun k hk => Nat.le_of_eq (Option.some.inj hk))
             have cga : w1.cell? ⟨g, a, none⟩ = some (.int .u64 (x0 : Nat)) := (World.ownsRow.cellAt hO2 a (by have := hidx.out.2; omega)).trans (uL_get hidx.out.1)
             have fga : w1.frozen? ⟨g, a, none⟩ = false := World.ownsRow.frozenAt hO2 a
             obtain ⟨W2, hW2⟩ : ∃ W2, w1.setCell ⟨g, a, none⟩ (.int .u64 (u : Nat)) = W2 := ⟨_, rfl⟩
             have hO3 : Own64 wr.heap.size W2 (.slice (some ⟨g, 0, none⟩) lk.length cap2) (lk.set a u) := by
               have := (World.ownsRow.stored hO2 a (.int .u64 (u : Nat))).1
               rw [uL_set, hW2] at this
               unfold Own64
               rw [List.length_set]
               exact this
             have hB2 : Bel wr W2 := by rw [← hW2]; exact Below.trans hB1 (Below.setCell (Below.refl _ _) hge _)
             have cx2 := cell_bel hB2 cx
             have c02 := cell_bel hB2 c0
             have hid3 := Lib.hid (And.intro hO3 (And.intro hB2 hge))
             clear hn1 hO1 hO2 hg1 hat1 hB1 hO3 hB2 hge)
          | (at_builtin
             refine wpList_push rfl (.tmp 35) (.tmp 37) rfl (w.heap.size + 3) ov _ _ (lk.set a u) rfl (hidO.out.1.bel hid3.out.2.1) rfl
               (hid3.out.1.ws fun x hx _ => by
                 have q0 := hidO.out.2.2.2 x
                 rintro ((y | y | y) | y)
                 · have := hid.out.2.1 x y; omega
                 · omega
                 · omega
                 · have := q0 y; omega) hidO.out.2.2.1 (by have := hid3.out.2.1.size; omega) ?_
             intro p' n' cap' w3 hO3 hB3
             obtain ⟨fz, cx3, W4, hW4, hbx4, cx4, hE4⟩ := box_store (x := .slice p' n' cap') ((hB3.block _ (by omega)).trans (heap_bel hid3.out.2.1 hbx))
             have hid4 := Lib.hid (And.intro hO3 (And.intro hB3 (And.intro hbx4 hE4)))
             clear hO3 hB3 hbx4 hE4))
        go_roundw
        case rel =>
          obtain ⟨hO3, hB3, hbx4, hE4⟩ := hid4.out
          have hB2 := hid3.out.2.1
          refine ⟨k + 1, _, by omega, by go_num, Below.trans hbw (Below.trans (hB2.mono (by omega)) (Below.trans (hB3.mono (by omega)) (hE4.below (fun x hx => by omega) (by have := hB3.size; have := hB2.size; omega)))), hbx4, ?_⟩
          rw [hidT.out]
          exact hO3.exc hE4 (fun x hx => Or.inr (Or.inr hx)) (fun x hx => by omega)
        case measure => simp only [intOf]; omega
      · have hne : ((k : Int) == (t : Int)) = false := by rw [beq_eq_false_iff_ne]; omega
        have hne2 : ¬ ((k : Int) = (t : Int)) := by omega
        have hst := setR_at (t := t) (a := a) (u := u) hlk e
        have hidO := Lib.hid (And.intro hO (And.intro hwY hQ))
        have hidT := Lib.hid (take_more hst)
        clear hO hwY hQ hst hRs hw hlk hlt
        have cx := cell_of_row _ _ 0 _ _ (0, 0) hbx
        go_wp2_with (at_builtin
                     refine wpList_push rfl (.tmp 35) (.tmp 37) rfl (w.heap.size + 3) ov _ _ _ rfl hidO.out.1 rfl hidO.out.2.1 hidO.out.2.2 (by omega) ?_
                     intro p' n' cap' w3 hO3 hB3
                     obtain ⟨fz, cx3, W4, hW4, hbx4, cx4, hE4⟩ := box_store (x := .slice p' n' cap') ((hB3.block _ (by omega)).trans hbx)
                     have hid4 := Lib.hid (And.intro hO3 (And.intro hB3 (And.intro hbx4 hE4)))
                     clear hO3 hB3 hbx4 hE4)
        go_roundw
        case rel =>
          obtain ⟨hO3, hB3, hbx4, hE4⟩ := hid4.out
          refine ⟨k + 1, _, by omega, by go_num, Below.trans hbw (Below.trans (hB3.mono (by omega)) (hE4.below (fun x hx => by omega) (by have := hB3.size; omega))), hbx4, ?_⟩
          rw [hidT.out]
          exact hO3.exc hE4 (fun x hx => Or.inr (Or.inr hx)) (fun x hx => by omega)
        case measure => simp only [intOf]; omega
    · obtain rfl : k = m := by omega
      have eT : (setR R t a u).take k = setR R t a u := List.take_of_length_le (by rw [setR_len]; omega)
      rw [eT] at hO
      have hidO := Lib.hid hO
      have hb1 := (hbw.block (w.heap.size + 1) (by omega)).trans hidm.out.2.1
      have cx := cell_of_row _ _ 0 _ _ (0, 0) hbx
      obtain ⟨p', cap', rfl⟩ := hO.shape
      obtain ⟨fz, cx3, W4, hW4, hbx4, cx4, hE4⟩ := box_store (x := .slice p' (setR R t a u).length cap') hb1
      have hid4 := Lib.hid (And.intro hbx4 hE4)
      clear hO eT hb1 hE4
      go_wp2
      (try simp only [Exit.inBlock, Exit.then])
      refine bodyPost_ret (results_cell_row rfl _ _ _ 31 _ (0, 0) _ rfl hid4.out.1 Tryz.underlying31 rfl info_rm) rfl ?_
      have hE4 := hid4.out.2
      have O4 := hidO.out.exc hE4 (fun x hx => Or.inr (Or.inl hx)) (fun x hx => by omega)
      exact ⟨⟨_, rfl, _, rfl, O4.rs (fun x hx hX => by have := hid.out.2.1 x hX; omega) (fun x hx => Or.inl hx)⟩, Below.trans e0 (hE4.below (fun x hx => by omega) (by have := hbw.size; omega))⟩

end Go.Proofs.YthokalcibjjihaaGreatDoor.mm

/- Store and Zero of the document's memories. -/
namespace Go.Proofs.YthokalcibjjihaaGreatDoor.mm
open Go.ChangeShapes Go.WideShapes Go.ChangeAt Go.RowKit Go.Deep
set_option linter.unusedVariables false

theorem results_cell_row2 {P : Program} {fn : Func} {p u : Tmp} {ty : TypeId} (h : fn.results = #[.cell p ty, .tmp u]) (tmps : Array Value) (w : World) (g : Nat) (t : TypeId) (cs : Array Value) (fr : Nat × Nat) (d : TypeDesc)
    (hp : tmps.getD p undef = .pointer (some ⟨g, 0, none⟩)) (hg : w.heap[g]? = some (.cells cs t fr))
    (hu : P.underlying ty = some d) (hd : (match d with | .struct _ | .array _ _ => true | _ => false) = true) (hi : (P.info? ty).map (·.size) = some cs.size) :
    (results fn tmps).run P w = .ok (.tuple #[.agg cs, tmps.getD u undef]) w := by
  rw [results_cell_tmp h, hp]
  simp [asAddr, run_loadVar_row w g t ty cs fr d hg hu hd hi]

/-- memories that are not too great -/
def RmOk (R : List (List Nat)) : Prop := R.length ≤ 1000 ∧ ∀ (j : Nat) (l : List Nat), R[j]? = some l → l.length ≤ 100000
theorem RmOk.set {R : List (List Nat)} (h : RmOk R) (t a u : Nat) : RmOk (setR R t a u) := by
  refine ⟨by rw [setR_len]; exact h.1, fun j l hj => ?_⟩
  have e := setR_row R t a u j
  have hj2 := (List.getElem?_eq_some_iff.1 hj).1
  rw [setR_len] at hj2
  rw [List.getD_eq_getElem?_getD, hj, List.getD_eq_getElem?_getD, List.getElem?_eq_getElem hj2] at e
  have := h.2 j _ (List.getElem?_eq_getElem hj2)
  simp at e
  omega
theorem RmOk.wipe {R : List (List Nat)} (h : RmOk R) (t a : Nat) : ∀ n, RmOk (wipe R t a n)
  | 0 => h
  | n + 1 => (h.wipe t a n).set _ _ _

theorem two_boxes (w : World) (a b : Obj) : ((w.alloc a).alloc b).heap[w.heap.size]? = some a ∧ ((w.alloc a).alloc b).heap[w.heap.size + 1]? = some b ∧ ((w.alloc a).alloc b).heap.size = w.heap.size + 2 := by
  have s1 := size_alloc1 w a
  have s2 := size_alloc1 (w.alloc a) b
  have e2 := box_at (w := w.alloc a) (o := b) (Bel.refl _)
  rw [s1] at e2
  exact ⟨box_at (w := w) (o := a) ((Bel.refl (w.alloc a)).alloc b), e2, by omega⟩

set_option maxHeartbeats 1000000 in
theorem rstore_any (X : Nat → Prop) (v : Value) (R : List (List Nat)) (t a : Int) (u : Nat) (w : World) (h : IsRm X w v R) (hX : Till X w) (ok : RmOk R) :
    Calls Tryz.prog 17 #[v, .int .i64 t, .int .i64 a, .int .u64 (u : Nat)] w fun e w' => (∃ v', e = .returned (.tuple #[v', .int .i64 (inE R t a)]) ∧ IsRm X w' v' (storeR R t a u)) ∧ Bel w w' := by
  have hI := h
  obtain ⟨rv, rfl, hR⟩ := h
  obtain ⟨p, cap, rfl, bd⟩ := hR.slice
  have b2 := ((Bel.refl w).alloc (.cells #[.slice p R.length cap] 31)).alloc (.cells #[.slice none 0 0] 31)
  obtain ⟨m0, m1, m2⟩ := two_boxes w (.cells #[.slice p R.length cap] 31) (.cells #[.slice none 0 0] 31)
  have ii := in_any X _ R t a _ (hI.bel b2)
  obtain ⟨W2, hW2⟩ : ∃ W2, ((w.alloc (.cells #[.slice p R.length cap] 31)).alloc (.cells #[.slice none 0 0] 31)) = W2 := ⟨_, rfl⟩
  have hm := Lib.hid (And.intro m0 (And.intro m1 m2))
  rw [hW2] at hm b2 ii
  clear m0 m1 m2
  by_cases z : inE R t a = 0
  · obtain ⟨t', a', l, u0, rfl, rfl, h1, h2, h3, h4⟩ := inE_ok z
    have eS : storeR R t' a' u = setR R t' a' u := by unfold storeR; rw [if_pos z, Int.toNat_natCast, Int.toNat_natCast]
    have hl := ok.2 _ _ h1
    have al := (List.getElem?_eq_some_iff.1 h2).1
    have hRx : Rs (fun b => X b ∨ b = w.heap.size + 1) w (.slice p R.length cap) R := hR.old.less fun k hk => by
      rcases hk with hk | hk
      · exact Or.inl hk
      · exact Or.inr (by omega)
    have hXx : ∀ W, Bel W2 W → Till (fun b => X b ∨ b = w.heap.size + 1) W := fun W g k hk => by
      have := g.size
      have := hm.out.2.2
      rcases hk with hk | hk
      · have := hX k hk; omega
      · omega
    have wt := fun W (g : Bel W2 W) => with_any (fun b => X b ∨ b = w.heap.size + 1) (.slice p R.length cap) R t' a' u l W (hRx.bel (b2.trans g)) (hXx W g) h1 al ok.1 hl
    rw [z] at ii ⊢
    rw [eS]
    have hid := Lib.hid (And.intro hX b2)
    clear hI hR h1 h2 h3 h4 eS hl al ok hX z hRx hXx
    generalize setR R t' a' u = S at *
    generalize R.length = m at *
    subst hW2
    go_enter Tryz.func17, Tryz.ntmps17
    go_wp2_with (first
      | (go_at_call 51; refine ii.mono ?_; rintro e w3 ⟨rfl, hg⟩; have c0 := cell_of_row _ _ 0 _ _ (0, 0) (heap_bel hg hm.out.1))
      | (go_at_call 52; refine (wt _ hg).mono ?_; rintro e w4 ⟨⟨v', rfl, rv', rfl, hR'⟩, hg2⟩
         obtain ⟨p', cap', rfl, bd'⟩ := hR'.slice
         obtain ⟨fz, cx3, W5, hW5, hbx5, cx5, hE5⟩ := box_store (x := .slice p' S.length cap') (heap_bel hg2 (heap_bel hg hm.out.2.1))
         have hid5 := Lib.hid (And.intro hR' (And.intro hbx5 hE5))
         clear hR' hbx5 hE5))
    (try simp only [Exit.inBlock, Exit.then])
    refine bodyPost_ret (results_cell_row2 rfl _ _ _ 31 _ (0, 0) _ rfl hid5.out.2.1 Tryz.underlying31 rfl info_rm) rfl ?_
    obtain ⟨hR', hbx5, hE5⟩ := hid5.out
    have sz := hm.out.2.2
    have hb5 : Bel w W5 := Below.trans (b2.trans (hg.trans hg2)) (hE5.below (fun x hx => by omega) (by have := hg.size; have := hg2.size; omega))
    exact ⟨⟨_, rfl, _, rfl, (hR'.exc (hE5.mono fun k hk => Or.inr hk)).less fun k hk => Or.inl hk⟩, hb5⟩
  · have eS : storeR R t a u = R := if_neg z
    have z2 : (inE R t a != 0) = true := by rw [bne_iff_ne]; exact z
    rw [eS]
    have hRx : Rs (fun b => X b ∨ b = w.heap.size + 1) w (.slice p R.length cap) R := hR.old.less fun k hk => by
      rcases hk with hk | hk
      · exact Or.inl hk
      · exact Or.inr (by omega)
    have hid := Lib.hid (And.intro hRx b2)
    clear hI hR eS hX hRx ok
    generalize inE R t a = E at *
    obtain ⟨m, hmm⟩ : ∃ m, R.length = m := ⟨_, rfl⟩
    rw [hmm] at hW2 ii bd hm hid ⊢
    subst hW2
    go_enter Tryz.func17, Tryz.ntmps17
    go_wp2_with (go_at_call 51; refine ii.mono ?_; rintro e w3 ⟨rfl, hg⟩; have c0 := cell_of_row _ _ 0 _ _ (0, 0) (heap_bel hg hm.out.1)
                 obtain ⟨fz, cx3, W5, hW5, hbx5, cx5, hE5⟩ := box_store (x := .slice p m cap) (heap_bel hg hm.out.2.1)
                 have hid5 := Lib.hid (And.intro hbx5 hE5)
                 clear hbx5 hE5)
    (try simp only [Exit.inBlock, Exit.then])
    refine bodyPost_ret (results_cell_row2 rfl _ _ _ 31 _ (0, 0) _ rfl hid5.out.1 Tryz.underlying31 rfl info_rm) rfl ?_
    obtain ⟨hbx5, hE5⟩ := hid5.out
    obtain ⟨hRx, b2⟩ := hid.out
    have sz := hm.out.2.2
    have hb5 : Bel w W5 := Below.trans (b2.trans hg) (hE5.below (fun x hx => by omega) (by have := hg.size; omega))
    exact ⟨⟨_, rfl, _, rfl, (((hRx.bel (b2.trans hg)).exc (hE5.mono fun k hk => Or.inr hk)).less fun k hk => Or.inl hk)⟩, hb5⟩

end Go.Proofs.YthokalcibjjihaaGreatDoor.mm

/- Zero of the document's memories. -/
namespace Go.Proofs.YthokalcibjjihaaGreatDoor.mm
open Go.ChangeShapes Go.WideShapes Go.ChangeAt Go.RowKit Go.Deep
set_option linter.unusedVariables false

theorem zeroE_ok {R : List (List Nat)} {t a n : Int} (h : zeroE R t a n = 0) : ∃ (t' a' n' : Nat) (l : List Nat), t = t' ∧ a = a' ∧ n = n' ∧ R[t']? = some l ∧ R.getD t' [] = l ∧ a' + n' ≤ l.length := by
  unfold zeroE at h
  split at h
  · cases h
  · split at h
    · cases h
    · rename_i h1 h2
      have e1 : t.toNat < R.length := by omega
      have e2 : R.getD t.toNat [] = R[t.toNat] := by rw [List.getD_eq_getElem?_getD, List.getElem?_eq_getElem e1]; rfl
      rw [e2] at h2
      exact ⟨t.toNat, a.toNat, n.toNat, R[t.toNat], by omega, by omega, by omega, List.getElem?_eq_getElem e1, e2, by omega⟩
theorem wipe_at {R : List (List Nat)} {t : Nat} {l : List Nat} (a : Nat) (h : R[t]? = some l) (n : Nat) : ∃ k, (wipe R t a n)[t]? = some k ∧ k.length = l.length := by
  have hlt := (List.getElem?_eq_some_iff.1 h).1
  have hl2 : t < (wipe R t a n).length := by rw [wipe_len]; exact hlt
  refine ⟨(wipe R t a n)[t], List.getElem?_eq_getElem hl2, ?_⟩
  have e := wipe_row R t a t n
  rw [List.getD_eq_getElem?_getD, List.getElem?_eq_getElem hl2, List.getD_eq_getElem?_getD, h] at e
  exact e

/-- the document's memory in the box that it is in -/
theorem rs_boxes {X : Nat → Prop} {w : World} {v : Value} {R : List (List Nat)} (h : Rs X w v R) : Rs (fun b => X b ∨ b = w.heap.size ∨ b = w.heap.size + 1) w v R := h.old.less fun k hk => by
  rcases hk with hk | hk | hk
  · exact Or.inl hk
  · exact Or.inr (by omega)
  · exact Or.inr (by omega)

set_option maxHeartbeats 4000000 in
set_option maxRecDepth 100000 in
theorem rzero_any (X : Nat → Prop) (v : Value) (R : List (List Nat)) (t a n : Int) (w : World) (h : IsRm X w v R) (hX : Till X w) (ok : RmOk R) :
    Calls Tryz.prog 86 #[v, .int .i64 t, .int .i64 a, .int .i64 n] w fun e w' => (∃ v', e = .returned (.tuple #[v', .int .i64 (zeroE R t a n)]) ∧ IsRm X w' v' (zeroR R t a n)) ∧ Bel w w' := by
  have hI := h
  obtain ⟨rv, rfl, hR⟩ := h
  obtain ⟨p, cap, rfl, bd⟩ := hR.slice
  have b2 := ((Bel.refl w).alloc (.cells #[.slice p R.length cap] 31)).alloc (.cells #[.slice none 0 0] 31)
  obtain ⟨m0, m1, m2⟩ := two_boxes w (.cells #[.slice p R.length cap] 31) (.cells #[.slice none 0 0] 31)
  obtain ⟨fz0, cx0, W5, hW5, hbx5, cx5, hE5⟩ := box_store (x := .slice p R.length cap) m1
  have hid := Lib.hid (And.intro hX (And.intro ok (And.intro b2 (And.intro (rs_boxes hR) hI))))
  have hid5 := Lib.hid (And.intro hbx5 hE5)
  have hm := Lib.hid (And.intro m0 (And.intro m1 m2))
  have c0 := cell_of_row _ _ 0 _ _ (0, 0) m0
  -- the end of a refused call
  have fin : IsRm X W5 (.agg #[.slice p R.length cap]) R ∧ Bel w W5 := by
    have hb5 : Bel w W5 := Below.trans b2 (hE5.below (fun x hx => by omega) (by omega))
    exact ⟨⟨_, rfl, (((rs_boxes hR).bel b2).exc (hE5.mono fun k hk => Or.inr (Or.inr hk))).less fun k hk => Or.inl hk⟩, hb5⟩
  have hfin := Lib.hid fin
  clear hX ok b2 hI m0 m1 m2 hbx5 hE5 fin
  have run2 : ∀ (E : Int), zeroE R t a n = E → E ≠ 0 → zeroR R t a n = R := fun E e h => if_neg (by rw [e]; exact h)
  by_cases t1 : t < 0
  · have eE : zeroE R t a n = 2 := if_pos (Or.inl t1)
    rw [run2 _ eE (by decide), eE]
    clear eE run2 hid
    generalize R.length = m at *
    go_enter Tryz.func86, Tryz.ntmps86
    go_wp2
    (try simp only [Exit.inBlock, Exit.then])
    refine bodyPost_ret (results_cell_row2 rfl _ _ _ 31 _ (0, 0) _ rfl hid5.out.1 Tryz.underlying31 rfl info_rm) rfl ?_
    exact ⟨⟨_, rfl, hfin.out.1⟩, hfin.out.2⟩
  · by_cases t2 : (R.length : Int) ≤ t
    · have eE : zeroE R t a n = 2 := if_pos (Or.inr t2)
      rw [run2 _ eE (by decide), eE]
      have d1 : decide (t < 0) = false := decide_eq_false t1
      clear eE run2 hid t1
      generalize R.length = m at *
      go_enter Tryz.func86, Tryz.ntmps86
      go_wp2
      (try simp only [Exit.inBlock, Exit.then])
      refine bodyPost_ret (results_cell_row2 rfl _ _ _ 31 _ (0, 0) _ rfl hid5.out.1 Tryz.underlying31 rfl info_rm) rfl ?_
      exact ⟨⟨_, rfl, hfin.out.1⟩, hfin.out.2⟩
    · obtain ⟨t', rfl⟩ : ∃ t' : Nat, t = t' := ⟨t.toNat, by omega⟩
      have ht : t' < R.length := by omega
      have hl : R[t']? = some R[t'] := List.getElem?_eq_getElem ht
      obtain ⟨b, off, cap', lv, ev, j1, j2, j3, j4, c, hw⟩ := hR.at hl
      injection ev with ev1 _ ev3
      subst ev1; subst ev3
      obtain ⟨pl, cl, rfl, bdl⟩ := hw.slice
      have el : R.getD t' [] = R[t'] := by rw [List.getD_eq_getElem?_getD, hl]; rfl
      have e0 : zeroE R t' a n = if a < 0 ∨ n < 0 ∨ ((R[t']).length : Int) < a ∨ ((R[t']).length : Int) - a < n then 4 else 0 := by
        unfold zeroE
        rw [if_neg (by omega), Int.toNat_natCast, el]
      have lb := hid.out.2.1.2 _ _ hl
      have d1 : decide ((t' : Int) < 0) = false := decide_eq_false t1
      have d2 : decide ((R.length : Int) ≤ (t' : Int)) = false := decide_eq_false t2
      have kI : (t' : Int) < (R.length : Int) := by omega
      have kz : (0 : Int) ≤ (t' : Int) := by omega
      have C1 := cell_bel hid.out.2.2.1 c
      clear t1 t2 hR hw c
      by_cases bad : a < 0 ∨ n < 0 ∨ ((R[t']).length : Int) < a ∨ ((R[t']).length : Int) - a < n
      · have eE : zeroE R t' a n = 4 := by rw [e0, if_pos bad]
        rw [run2 _ eE (by decide), eE]
        clear eE run2 hid e0 el hl
        obtain ⟨ln, hln⟩ : ∃ ln, (R[t']).length = ln := ⟨_, rfl⟩
        rw [hln] at bad C1 bdl lb
        clear hln ht
        generalize R.length = m at *
        by_cases a1 : a < 0
        · clear bad
          go_enter Tryz.func86, Tryz.ntmps86
          go_wp2
          (try simp only [Exit.inBlock, Exit.then])
          refine bodyPost_ret (results_cell_row2 rfl _ _ _ 31 _ (0, 0) _ rfl hid5.out.1 Tryz.underlying31 rfl info_rm) rfl ?_
          exact ⟨⟨_, rfl, hfin.out.1⟩, hfin.out.2⟩
        · have d3 : decide (a < 0) = false := decide_eq_false a1
          by_cases n1 : n < 0
          · clear bad a1
            go_enter Tryz.func86, Tryz.ntmps86
            go_wp2
            (try simp only [Exit.inBlock, Exit.then])
            refine bodyPost_ret (results_cell_row2 rfl _ _ _ 31 _ (0, 0) _ rfl hid5.out.1 Tryz.underlying31 rfl info_rm) rfl ?_
            exact ⟨⟨_, rfl, hfin.out.1⟩, hfin.out.2⟩
          · have d4 : decide (n < 0) = false := decide_eq_false n1
            by_cases a2 : (ln : Int) < a
            · clear bad a1 n1
              go_enter Tryz.func86, Tryz.ntmps86
              go_wp2
              (try simp only [Exit.inBlock, Exit.then])
              refine bodyPost_ret (results_cell_row2 rfl _ _ _ 31 _ (0, 0) _ rfl hid5.out.1 Tryz.underlying31 rfl info_rm) rfl ?_
              exact ⟨⟨_, rfl, hfin.out.1⟩, hfin.out.2⟩
            · have d5 : decide ((ln : Int) < a) = false := decide_eq_false a2
              have n2 : (ln : Int) - a < n := by omega
              have a0 : 0 ≤ a := by omega
              have a3 : a ≤ (ln : Int) := by omega
              clear bad a1 n1 a2
              go_enter Tryz.func86, Tryz.ntmps86
              go_wp2
              (try simp only [Exit.inBlock, Exit.then])
              refine bodyPost_ret (results_cell_row2 rfl _ _ _ 31 _ (0, 0) _ rfl hid5.out.1 Tryz.underlying31 rfl info_rm) rfl ?_
              exact ⟨⟨_, rfl, hfin.out.1⟩, hfin.out.2⟩
      · have eE : zeroE R t' a n = 0 := by rw [e0, if_neg bad]
        obtain ⟨a', rfl⟩ : ∃ a' : Nat, a = a' := ⟨a.toNat, by omega⟩
        obtain ⟨n', rfl⟩ : ∃ n' : Nat, n = n' := ⟨n.toNat, by omega⟩
        have eS : zeroR R t' a' n' = wipe R t' a' n' := by unfold zeroR; rw [if_pos eE, Int.toNat_natCast, Int.toNat_natCast, Int.toNat_natCast]
        rw [eE, eS]
        have hidr := Lib.hid hl
        clear eE eS run2 hfin e0 el hl
        obtain ⟨ln, hln⟩ : ∃ ln, (R[t']).length = ln := ⟨_, rfl⟩
        rw [hln] at bad C1 bdl lb
        have hidn := Lib.hid hln
        clear hln
        have al : a' + n' ≤ ln := by omega
        have d3 : decide ((a' : Int) < 0) = false := decide_eq_false (by omega)
        have d4 : decide ((n' : Int) < 0) = false := decide_eq_false (by omega)
        have d5 : decide ((ln : Int) < (a' : Int)) = false := decide_eq_false (by omega)
        have d6 : decide ((ln : Int) - (a' : Int) < (n' : Int)) = false := decide_eq_false (by omega)
        clear bad
        obtain ⟨m, hmm⟩ : ∃ m, R.length = m := ⟨_, rfl⟩
        rw [hmm] at d2 kI C1 bd hid hid5 hm c0 hW5 cx5 j1 ⊢
        clear hmm
        have g0 := Exc.mono (Y := fun k => k = w.heap.size) (Bel.exc (X := fun _ => False) (Bel.refl ((w.alloc (.cells #[.slice (some ⟨b, off, none⟩) m cap] 31)).alloc (.cells #[.slice none 0 0] 31)))) (fun _ x => x.elim)
        have ho0 := hid.out.2.2.2.1.bel hid.out.2.2.1
        go_enter Tryz.func86, Tryz.ntmps86
        go_wp2
        go_loopw [10] (fun i wr => ∃ (k : Nat) (rvk : Value), k ≤ n' ∧ i = .int .i64 (k : Nat) ∧ wr.heap[w.heap.size]? = some (.cells #[rvk] 31 (0, 0)) ∧ Rs (fun b => X b ∨ b = w.heap.size ∨ b = w.heap.size + 1) wr rvk (wipe R t' a' k) ∧ Exc (fun k => k = w.heap.size) ((w.alloc (.cells #[.slice (some ⟨b, off, none⟩) m cap] 31)).alloc (.cells #[.slice none 0 0] 31)) wr) (fun i _ => n' - (intOf i).toNat)
        case atStart => exact ⟨0, _, Nat.zero_le _, rfl, hm.out.1, ho0, g0⟩
        case round =>
          obtain ⟨k, rvk, hk, rfl, hbx, hRk, hEk⟩ := hrel
          obtain ⟨pk, ck, rfl, _⟩ := hRk.slice
          have cb := cell_of_row _ _ 0 _ _ (0, 0) hbx
          by_cases ckn : k < n'
          · have hXx : Till (fun b => X b ∨ b = w.heap.size ∨ b = w.heap.size + 1) wr := fun q hq => by
              have h1 := hEk.size
              have h2 := hm.out.2.2
              rcases hq with hq | hq | hq
              · have := hid.out.1 q hq; omega
              · omega
              · omega
            obtain ⟨lk, hlk, ell⟩ := wipe_at a' hidr.out k
            have okk := hid.out.2.1.wipe t' a' k
            have wt := with_any (fun b => X b ∨ b = w.heap.size ∨ b = w.heap.size + 1) _ (wipe R t' a' k) t' (a' + k) 0 lk wr hRk hXx hlk (by rw [ell, hidn.out]; omega) okk.1 (okk.2 _ _ hlk)
            rw [Int.natCast_add] at wt
            have hidk := Lib.hid (And.intro hEk hXx)
            clear hRk hEk hXx hlk ell okk
            go_wp2_with (go_at_call 52; refine wt.mono ?_; rintro e w4 ⟨⟨v', rfl, rv', rfl, hR'⟩, hg2⟩
                         obtain ⟨p', cap', rfl, bd'⟩ := hR'.slice
                         obtain ⟨fz, cx3, W6, hW6, hbx6, cx6, hE6⟩ := box_store (x := .slice p' (setR (wipe R t' a' k) t' (a' + k) 0).length cap') (heap_bel hg2 hbx)
                         have hid6 := Lib.hid (And.intro hR' (And.intro hbx6 (And.intro hE6 hg2)))
                         clear hR' hbx6 hE6 hg2)
            go_roundw
            case rel =>
              obtain ⟨hR', hbx6, hE6, hg2⟩ := hid6.out
              refine ⟨k + 1, _, by omega, by go_num, hbx6, ?_, Exc.trans hidk.out.1 (Exc.trans hg2.exc hE6)⟩
              exact hR'.exc (hE6.mono fun q hq => Or.inr (Or.inl hq))
            case measure => simp only [intOf]; omega
          · obtain rfl : k = n' := by omega
            have hb1 : wr.heap[w.heap.size + 1]? = some (.cells #[.slice none 0 0] 31 (0, 0)) := (hEk.block _ (by rw [hm.out.2.2]; omega) (by omega)).trans hm.out.2.1
            obtain ⟨fz, cx3, W6, hW6, hbx6, cx6, hE6⟩ := box_store (x := .slice pk (wipe R t' a' k).length ck) hb1
            have hid6 := Lib.hid (And.intro hRk (And.intro hbx6 (And.intro hE6 hEk)))
            clear hRk hbx6 hE6 hEk hb1
            go_wp2
            (try simp only [Exit.inBlock, Exit.then])
            refine bodyPost_ret (results_cell_row2 rfl _ _ _ 31 _ (0, 0) _ rfl hid6.out.2.1 Tryz.underlying31 rfl info_rm) rfl ?_
            obtain ⟨hRk, hbx6, hE6, hEk⟩ := hid6.out
            have s2 := hm.out.2.2
            have s3 := hEk.size
            refine ⟨⟨_, rfl, _, rfl, (hRk.exc (hE6.mono fun q hq => Or.inr (Or.inr hq))).less fun q hq => Or.inl hq⟩, ?_⟩
            exact Below.trans hid.out.2.2.1 (Below.trans (hEk.below (fun x hx => by omega) (by omega)) (hE6.below (fun x hx => by omega) (by omega)))

end Go.Proofs.YthokalcibjjihaaGreatDoor.mm

/- New of the document's memories. -/
namespace Go.Proofs.YthokalcibjjihaaGreatDoor.mm
open Go.ChangeShapes Go.WideShapes Go.ChangeAt Go.RowKit Go.Deep
set_option linter.unusedVariables false

/-- the words of a configuration, at first -/
def _root_.Go.Proofs.YthokalcibjjihaaGreatDoor.Cf.zeros (c : Cf) : List (List Nat) := (List.range c.m).map fun t => List.replicate (c.region t).toNat 0
theorem _root_.Go.Proofs.YthokalcibjjihaaGreatDoor.Cf.zeros_len (c : Cf) : c.zeros.length = c.m := by unfold Cf.zeros; simp
theorem _root_.Go.Proofs.YthokalcibjjihaaGreatDoor.Cf.zeros_at (c : Cf) {t : Nat} (h : t < c.m) : c.zeros[t]? = some (List.replicate (c.region t).toNat 0) := by unfold Cf.zeros; rw [List.getElem?_map, List.getElem?_range h]; rfl

theorem uL_zero (n : Nat) : madeCells (#[.int .u64 0] : Array Value) n = (uL (List.replicate n 0)).toArray := by
  apply Array.toList_inj.1
  rw [toList_madeCells_one]
  unfold uL
  simp

/-- a row of zeros, made -/
theorem own_zeros (w : World) (n : Nat) (h : n ≤ maxLen) : Own64 w.heap.size (w.alloc (.cells (madeCells (#[.int .u64 0] : Array Value) n) 42)) (.slice (some ⟨w.heap.size, 0, none⟩) n n) (List.replicate n 0) := by
  unfold Own64
  rw [uL_zero, List.length_replicate]
  have := World.ownsRow_lit (base := w.heap.size) (e := 42) (size := 1) w (uL (List.replicate n 0)).toArray n (Nat.le_refl _) h (by simp [uL])
  simpa using this

set_option maxRecDepth 100000 in
set_option maxHeartbeats 2000000 in
theorem rnew_any (X : Nat → Prop) (v : Value) (c : Cf) (w : World) (h : IsCf w v c) (ok : c.ok) (hX : Till X w) :
    Calls Tryz.prog 35 #[v] w fun e w' => (∃ v', e = .returned v' ∧ IsRm X w' v' c.zeros) ∧ Bel w w' := by
  have hI := h
  obtain ⟨vc, vt, rfl, hN, hT⟩ := h
  obtain ⟨p1, c1, rfl, _⟩ := nums_slice hN
  obtain ⟨p2, c2, rfl, _⟩ := tens_slice hT
  obtain ⟨m0, m1, m2, m3⟩ := three_made w (.cells #[.slice p1 c.n c1, .int .i64 c.page, .slice p2 c.m c2, .int .i64 c.wk, .int .i64 c.gr, .int .i64 c.gn] 25) (.cells #[.slice none 0 0] 31) (.cells #[.slice none 0 0] 31)
  have g3 := (((Bel.refl w).alloc (.cells #[.slice p1 c.n c1, .int .i64 c.page, .slice p2 c.m c2, .int .i64 c.wk, .int .i64 c.gr, .int .i64 c.gn] 25)).alloc (.cells #[.slice none 0 0] 31)).alloc (.cells #[.slice none 0 0] 31)
  have hid := Lib.hid (And.intro hI (And.intro ok (And.intro hX g3)))
  have hidm := Lib.hid (And.intro m0 (And.intro m1 (And.intro m2 m3)))
  have m8 := Cf.ok_m ok
  clear hI hN hT ok hX g3 m0 m1 m2 m3
  go_enter Tryz.func35, Tryz.ntmps35
  go_wp2
  go_loopw [4] (fun i wr => ∃ (k : Nat) (ov : Value), k ≤ c.m ∧ i = .int .i64 (k : Nat) ∧ Below (w.heap.size + 2) (((w.alloc (.cells #[.slice p1 c.n c1, .int .i64 c.page, .slice p2 c.m c2, .int .i64 c.wk, .int .i64 c.gr, .int .i64 c.gn] 25)).alloc (.cells #[.slice none 0 0] 31)).alloc (.cells #[.slice none 0 0] 31)) wr ∧ wr.heap[w.heap.size + 2]? = some (.cells #[ov] 31 (0, 0)) ∧ Orow (fun b => X b ∨ b = w.heap.size + 1 ∨ b = w.heap.size + 2) (w.heap.size + 3) wr ov (c.zeros.take k)) (fun i _ => c.m - (intOf i).toNat)
  case atStart => exact ⟨0, _, Nat.zero_le _, rfl, Below.refl _ _, hidm.out.2.2.1, Orow.nil _ _ _⟩
  case round =>
    obtain ⟨k, ov, hk, rfl, hbw, hbx, hO⟩ := hrel
    have hs := hidm.out.2.2.2
    have sz := hbw.size
    have hb0 := (hbw.block w.heap.size (by omega)).trans hidm.out.1
    have c0 := cell_of_row _ _ 0 _ _ (0, 0) hb0
    have c1' := cell_of_row _ _ 1 _ _ (0, 0) hb0
    have c2' := cell_of_row _ _ 2 _ _ (0, 0) hb0
    have c3' := cell_of_row _ _ 3 _ _ (0, 0) hb0
    have c4' := cell_of_row _ _ 4 _ _ (0, 0) hb0
    have c5' := cell_of_row _ _ 5 _ _ (0, 0) hb0
    have e0 : Below w.heap.size w wr := Below.trans hid.out.2.2.2 (hbw.mono (by omega))
    by_cases ck : k < c.m
    · have rg := rreg_any _ c k wr (hid.out.1.bel e0)
      have hz := Cf.has_zero hid.out.2.1 ck
      rw [Cf.regR_ok hz, Cf.hasE_ok hz, Int.toNat_natCast] at rg
      obtain ⟨r1, r2⟩ := Cf.region_bd hid.out.2.1 ck
      have hza := c.zeros_at ck
      obtain ⟨n, hn⟩ : ∃ n : Nat, c.region k = n := ⟨(c.region k).toNat, by omega⟩
      rw [hn] at rg r2 hza
      rw [Int.toNat_natCast] at hza
      have hQ : (c.zeros.take k).length ≤ 1000 := by rw [List.length_take, Cf.zeros_len]; omega
      have hidO := Lib.hid (And.intro hO (And.intro hQ (take_more hza)))
      have hmk : ∀ W : World, (Instr.makeSlice 49 (.int .i64 (n : Nat)) (.int .i64 (n : Nat))).run Tryz.prog W = .ok (.slice (some ⟨W.heap.size, 0, none⟩) n n) (W.alloc (.cells (madeCells (#[.int .u64 0] : Array Value) n) 42)) := fun W => by
        obtain ⟨i0, hi, hz0, hz1, hz2⟩ := info_parts info_u64
        have := run_make (P := Tryz.prog) W 49 42 i0 _ Tryz.underlying49 hi hz0 .i64 .i64 n n (by omega) (Int.le_refl _) (by rw [hz2]; omega) (by omega)
        rw [this, hz1, Int.toNat_natCast, Nat.mul_one]
        rfl
      clear hO hQ hza hn hz r1
      go_wp2_with (go_at_call 77; refine rg.mono ?_; rintro e w3 ⟨rfl, hg⟩)
      have cx := cell_of_row _ _ 0 _ _ (0, 0) (heap_bel hg hbx)
      have g0 := Bel.refl w3
      obtain ⟨lv, hlv⟩ : ∃ lv : Value, .slice (some ⟨w3.heap.size, 0, none⟩) n n = lv := ⟨_, rfl⟩
      have hOz := own_zeros w3 n (by unfold maxLen; omega)
      have A := (Bel.refl w3).alloc (.cells (madeCells (#[.int .u64 0] : Array Value) n) 42)
      have A2 := (Bel.refl (w3.alloc (.cells (madeCells (#[.int .u64 0] : Array Value) n) 42))).alloc (.cells #[.slice (some ⟨w3.heap.size, 0, none⟩) n n] 49)
      have hx2 : (((w3.alloc (.cells (madeCells (#[.int .u64 0] : Array Value) n) 42)).alloc (.cells #[.slice (some ⟨w3.heap.size, 0, none⟩) n n] 49)).drew).heap[w3.heap.size + 1]? = some (.cells #[.slice (some ⟨w3.heap.size, 0, none⟩) n n] 49 (0, 0)) := by
        have := heap_alloc_new (w3.alloc (.cells (madeCells (#[.int .u64 0] : Array Value) n) 42)) (.cells #[.slice (some ⟨w3.heap.size, 0, none⟩) n n] 49)
        rw [size_alloc1] at this
        exact this
      have hO1 : Orow (fun b => X b ∨ b = w.heap.size + 1 ∨ b = w.heap.size + 2) (w.heap.size + 3) (((w3.alloc (.cells (madeCells (#[.int .u64 0] : Array Value) n) 42)).alloc (.cells #[.slice (some ⟨w3.heap.size, 0, none⟩) n n] 49)).drew) ov (c.zeros.take k) := hidO.out.1.bel (hg.trans (A.trans A2.drew))
      have hlw : Ws (fun b => (X b ∨ b = w.heap.size + 1 ∨ b = w.heap.size + 2) ∨ ov.ownBlock = some b) (((w3.alloc (.cells (madeCells (#[.int .u64 0] : Array Value) n) 42)).alloc (.cells #[.slice (some ⟨w3.heap.size, 0, none⟩) n n] 49)).drew) (.slice (some ⟨w3.heap.size, 0, none⟩) n n) (List.replicate n 0) := by
        refine (hOz.ws fun x hx _ => ?_).bel A2.drew
        have q0 := hidO.out.1.lt x
        have := hg.size
        rintro ((y | y | y) | y)
        · have := hid.out.2.2.1 x y; omega
        · omega
        · omega
        · have := q0 y; omega
      have hsz : w.heap.size + 3 ≤ (((w3.alloc (.cells (madeCells (#[.int .u64 0] : Array Value) n) 42)).alloc (.cells #[.slice (some ⟨w3.heap.size, 0, none⟩) n n] 49)).drew).heap.size := by
        have := A.size; have := A2.size; have := hg.size
        show _ ≤ ((w3.alloc _).alloc _).heap.size
        omega
      have hb2 := heap_bel (hg.trans (A.trans A2.drew)) hbx
      have hidp := Lib.hid (And.intro hO1 (And.intro hx2 (And.intro hlw (And.intro hsz (And.intro hb2 (hg.trans (A.trans A2.drew)))))))
      have cx0 : w3.cell? ⟨w.heap.size + 1 + 1, 0, none⟩ = some ov := cx
      have cxa := cell_bel A cx0
      have cxb := cell_bel A2 cxa
      clear hO1 hx2 hlw hsz hb2 A A2 hOz hlv lv g0 cx
      clear c0 c1' c2' c3' c4' c5' rg
      go_region_law (first
        | (refine step_pushG (by rfl) (.tmp 21) (.tmp 24) (by rfl) (w.heap.size + 3) ov (.slice (some ⟨w3.heap.size, 0, none⟩) n n) (c.zeros.take k) (List.replicate n 0) (w3.heap.size + 1) (by rfl) hidp.out.1 (by rfl) hidp.out.2.1 hidp.out.2.2.1 hidO.out.2.1 hidp.out.2.2.2.1 ?_
           intro p' n' cap' w4 hO4 hB4
           obtain ⟨fz, cx3, W5, hW5, hbx5, cx5, hE5⟩ := box_store (x := .slice p' n' cap') ((hB4.block _ (by omega)).trans hidp.out.2.2.2.2.1)
           have hid5 := Lib.hid (And.intro hO4 (And.intro hB4 (And.intro hbx5 hE5)))
           clear hO4 hB4 hbx5 hE5))
      all_goals go_wp2
      all_goals go_roundw
      all_goals (first
       | (simp only [intOf]; omega)
       | (obtain ⟨hO4, hB4, hbx5, hE5⟩ := hid5.out
          obtain ⟨_, _, _, hsz, _, hgg⟩ := hidp.out
          refine ⟨k + 1, _, by omega, by go_num, Below.trans hbw (Below.trans (hgg.mono (by omega)) (Below.trans (hB4.mono (by omega)) (hE5.below (fun x hx => by omega) (by have := hB4.size; omega)))), hbx5, ?_⟩
          rw [hidO.out.2.2]
          exact hO4.exc hE5 (fun x hx => Or.inr (Or.inr hx)) (fun x hx => by omega)))
    · obtain rfl : k = c.m := by omega
      have eT : c.zeros.take c.m = c.zeros := List.take_of_length_le (by rw [Cf.zeros_len]; omega)
      rw [eT] at hO
      have hidO := Lib.hid hO
      have hb1 := (hbw.block (w.heap.size + 1) (by omega)).trans hidm.out.2.1
      have cx := cell_of_row _ _ 0 _ _ (0, 0) hbx
      obtain ⟨p', cap', rfl⟩ := hO.shape
      obtain ⟨fz, cx3, W4, hW4, hbx4, cx4, hE4⟩ := box_store (x := .slice p' c.zeros.length cap') hb1
      have hid4 := Lib.hid (And.intro hbx4 hE4)
      clear hO eT hb1 hE4
      go_wp2
      (try simp only [Exit.inBlock, Exit.then])
      refine bodyPost_ret (results_cell_row rfl _ _ _ 31 _ (0, 0) _ rfl hid4.out.1 Tryz.underlying31 rfl info_rm) rfl ?_
      have hE4 := hid4.out.2
      have O4 := hidO.out.exc hE4 (fun x hx => Or.inr (Or.inl hx)) (fun x hx => by omega)
      exact ⟨⟨_, rfl, _, rfl, O4.rs (fun x hx hX => by have := hid.out.2.2.1 x hX; omega) (fun x hx => Or.inl hx)⟩, Below.trans e0 (hE4.below (fun x hx => by omega) (by have := hbw.size; omega))⟩

end Go.Proofs.YthokalcibjjihaaGreatDoor.mm

/- All of the document's memories; Same of words; the size that a statement looks at. -/
namespace Go.Proofs.YthokalcibjjihaaGreatDoor.mm
open Go.ChangeShapes Go.WideShapes Go.ChangeAt Go.RowKit Go.Deep
set_option linter.unusedVariables false

/-- memories of a configuration's kind -/
def RmFull (R : List (List Nat)) : Prop := R.length ≤ 8 ∧ ∀ (j : Nat) (l : List Nat), R[j]? = some l → 1 ≤ l.length ∧ l.length ≤ 100000
theorem RmFull.ok {R : List (List Nat)} (h : RmFull R) : RmOk R := ⟨by have := h.1; omega, fun j l hj => (h.2 j l hj).2⟩
theorem RmFull.set {R : List (List Nat)} (h : RmFull R) (t a u : Nat) : RmFull (setR R t a u) := by
  refine ⟨by rw [setR_len]; exact h.1, fun j l hj => ?_⟩
  have e := setR_row R t a u j
  have hj2 := (List.getElem?_eq_some_iff.1 hj).1
  rw [setR_len] at hj2
  rw [List.getD_eq_getElem?_getD, hj, List.getD_eq_getElem?_getD, List.getElem?_eq_getElem hj2] at e
  have := h.2 j _ (List.getElem?_eq_getElem hj2)
  simp at e
  omega
theorem RmFull.wipe {R : List (List Nat)} (h : RmFull R) (t a : Nat) : ∀ n, RmFull (wipe R t a n)
  | 0 => h
  | n + 1 => (h.wipe t a n).set _ _ _
theorem RmFull.store {R : List (List Nat)} (h : RmFull R) (t a : Int) (u : Nat) : RmFull (storeR R t a u) := by
  unfold storeR; split
  · exact h.set _ _ _
  · exact h
theorem RmFull.zero {R : List (List Nat)} (h : RmFull R) (t a n : Int) : RmFull (zeroR R t a n) := by
  unfold zeroR; split
  · exact h.wipe _ _ _
  · exact h
theorem sumTo_one {f : Nat → Int} {B : Int} : ∀ {n : Nat}, 1 ≤ n → (∀ k, k < n → B ≤ f k) → 0 ≤ B → B ≤ sumTo f n
  | 1, _, h, _ => by show B ≤ sumTo f 0 + f 0; have := h 0 (by omega); show B ≤ 0 + f 0; omega
  | n + 2, _, h, hB => by
    have a := sumTo_one (n := n + 1) (by omega) (fun k hk => h k (by omega)) hB
    have b := h (n + 1) (by omega)
    show B ≤ sumTo f (n + 1) + f (n + 1)
    omega
theorem _root_.Go.Proofs.YthokalcibjjihaaGreatDoor.Cf.region_pos {c : Cf} (ok : c.ok) {t : Nat} (ht : t < c.m) : 1 ≤ c.region t := by
  refine sumTo_one (Cf.ok_n ok).1 (fun k hk => ?_) (by decide)
  obtain ⟨z1, z2, _⟩ := Cf.pages_bd ok ht hk
  obtain ⟨g1, g2, _⟩ := Cf.ok_page ok
  have := Int.mul_le_mul (show (1 : Int) ≤ c.pages t k from z1) (show (1 : Int) ≤ c.page by omega) (by omega) (by omega)
  omega
/-- the words of a configuration that is not too great -/
theorem _root_.Go.Proofs.YthokalcibjjihaaGreatDoor.Cf.region_base {c : Cf} (ok : c.ok) : ∀ m, m ≤ c.m → ∀ t, t < m → c.region t ≤ c.base m
  | 0, _, t, ht => by omega
  | m + 1, hm, t, ht => by
    have e := Cf.base_succ c m
    have b := Cf.base_bd ok (show m ≤ c.m by omega)
    have r := Cf.region_bd ok (show m < c.m by omega)
    by_cases h : t = m
    · subst h; omega
    · have := Cf.region_base ok m (by omega) t (by omega); omega
theorem _root_.Go.Proofs.YthokalcibjjihaaGreatDoor.Cf.zeros_full {c : Cf} (ok : c.ok) (h : c.base c.m ≤ 4000) : RmFull c.zeros := by
  refine ⟨by rw [Cf.zeros_len]; exact (Cf.ok_m ok).2, fun j l hj => ?_⟩
  have hj2 := (List.getElem?_eq_some_iff.1 hj).1
  rw [Cf.zeros_len] at hj2
  rw [c.zeros_at hj2] at hj
  injection hj with hj
  subst hj
  rw [List.length_replicate]
  have a := Cf.region_pos ok hj2
  have b := Cf.region_base ok c.m (Nat.le_refl _) j hj2
  omega

theorem take_flat_len {R : List (List Nat)} (h : RmFull R) : ∀ k, (R.take k).flatten.length ≤ k * 100000
  | 0 => by simp
  | k + 1 => by
    have a := take_flat_len h k
    by_cases h1 : k < R.length
    · have b := (h.2 k _ (List.getElem?_eq_getElem h1)).2
      rw [take_more (List.getElem?_eq_getElem h1), List.flatten_append, List.length_append]
      simp only [List.flatten_cons, List.flatten_nil, List.append_nil]
      omega
    · have e1 : R.take k = R := List.take_of_length_le (by omega)
      have e2 : R.take (k + 1) = R := List.take_of_length_le (by omega)
      rw [e1] at a
      rw [e2]
      exact Nat.le_trans a (Nat.mul_le_mul_right _ (Nat.le_succ k))

theorem Own64.bel {B : Nat} {w w' : World} {v : Value} {l : List Nat} (h : Own64 B w v l) (g : Bel w w') : Own64 B w' v l := by
  refine ⟨h.1, ?_⟩
  rcases h.2 with hn | ⟨g', cap, cur, rfl, hb, hg, rest⟩
  · exact Or.inl hn
  · exact Or.inr ⟨g', cap, cur, rfl, hb, heap_bel g hg, rest⟩

set_option maxHeartbeats 1000000 in
theorem rall_any (X : Nat → Prop) (v : Value) (R : List (List Nat)) (w : World) (h : IsRm X w v R) (hR : RmFull R) :
    Calls Tryz.prog 15 #[v] w fun e w' => (∃ v', e = .returned v' ∧ Own64 w.heap.size w' v' R.flatten) ∧ Bel w w' := by
  obtain ⟨rv, rfl, hRs⟩ := h
  obtain ⟨p, cap, rfl, bd⟩ := hRs.slice
  have b1 := (Bel.refl w).alloc (.cells #[.slice p R.length cap] 31)
  have hid := Lib.hid (And.intro hRs.old (And.intro hR b1))
  obtain ⟨m, hmm⟩ : ∃ m, R.length = m := ⟨_, rfl⟩
  have hidm := Lib.hid hmm
  rw [hmm] at hid bd b1 ⊢
  clear hRs hR hmm
  have c0 := agg_at (w := w) (Bel.refl (w.alloc (.cells #[.slice p m cap] 31))) 0
  go_enter Tryz.func15, Tryz.ntmps15
  go_wp2
  go_loopw [4, 3] (fun i o wr => ∃ k : Nat, k ≤ m ∧ i = .int .i64 (k : Nat) ∧ Own64 (w.heap.size + 1) wr o ((R.take k).flatten) ∧ Bel (w.alloc (.cells #[.slice p m cap] 31)) wr) (fun i _ _ => m - (intOf i).toNat)
  case atStart => exact ⟨0, Nat.zero_le _, rfl, by simp only [List.take_zero, List.flatten_nil]; exact World.ownsRow_nil _ _ _ _, Bel.refl _⟩
  case round =>
    obtain ⟨k, hk, rfl, hO, hbr⟩ := hrel
    have c1 := cell_bel hbr c0
    have sz := hbr.size
    rw [size_alloc1] at sz
    by_cases ck : k < m
    · have e0 : Below w.heap.size w wr := hid.out.2.2.trans hbr
      have hRs := hid.out.1.exc (Below.exc (X := X) e0)
      obtain ⟨l, hl⟩ : ∃ l, R[k]? = some l := ⟨R[k]'(by rw [hidm.out]; exact ck), List.getElem?_eq_getElem _⟩
      obtain ⟨b, off, cap', lv, ev, j1, j2, j3, j4, c, hw⟩ := hRs.at hl
      injection ev with ev1 ev2 ev3
      clear ev2
      subst ev1; subst ev3
      obtain ⟨pl, cl, rfl, bdl⟩ := hw.slice
      have lb := hid.out.2.1.2 _ _ hl
      have m8 := hid.out.2.1.1
      have fl := take_flat_len hid.out.2.1 k
      have kI : (k : Int) < (m : Int) := by omega
      have kz : (0 : Int) ≤ (k : Int) := by omega
      have hidO := Lib.hid (And.intro hO (And.intro hw (take_more hl)))
      have bn : ((R.take k).flatten).length + l.length ≤ 1000000 := by have := hidm.out; omega
      have hbn := Lib.hid (And.intro lb bn)
      clear hO hRs hw hl lb m8 fl bn
      go_wp2_with (at_builtin
                   refine wpList_appW rfl (.tmp 12) (.tmp 17) rfl (w.heap.size + 1) _ _ rfl hidO.out.1 _ l rfl hidO.out.2.1 hbn.out.1.1 hbn.out.2 sz ?_
                   intro g n1 cap2 w1 hn1 hO1 hg1 hat1
                   have hid1 := Lib.hid (And.intro hO1 hg1)
                   clear hn1 hO1 hg1 hat1)
      go_roundw
      case rel =>
        obtain ⟨hO1, hg1⟩ := hid1.out
        refine ⟨k + 1, by omega, by go_num, ?_, ?_⟩
        · rw [hidO.out.2.2, List.flatten_append]
          simpa using hO1
        · exact Below.grown hbr hg1 hbr.size (fun x hx => by have := (hidO.out.1.lt x hx).1; rw [size_alloc1]; omega)
      case measure => simp only [intOf]; omega
    · obtain rfl : k = m := by omega
      have eT : R.take k = R := List.take_of_length_le (by rw [hidm.out]; omega)
      rw [eT] at hO
      have hidO := Lib.hid hO
      clear hO eT
      go_wp2
      go_ret
      have hO := hidO.out
      refine ⟨⟨_, rfl, ⟨hO.1, ?_⟩⟩, hid.out.2.2.trans hbr⟩
      rcases hO.2 with hn | ⟨g', cap, cur, e, hb, rest⟩
      · exact Or.inl hn
      · exact Or.inr ⟨g', cap, cur, e, by omega, rest⟩

end Go.Proofs.YthokalcibjjihaaGreatDoor.mm

/- Same of words; the size that a statement looks at. -/
namespace Go.Proofs.YthokalcibjjihaaGreatDoor.mm
open Go.ChangeShapes Go.WideShapes Go.ChangeAt Go.RowKit Go.Deep
set_option linter.unusedVariables false

theorem eq_upto {l k : List Nat} (hl : l.length = k.length) (h : ∀ j, j < l.length → l[j]? = k[j]?) : l = k := by
  apply List.ext_getElem?
  intro j
  by_cases c : j < l.length
  · exact h j c
  · rw [List.getElem?_eq_none (by omega), List.getElem?_eq_none (by omega)]

set_option maxHeartbeats 1000000 in
theorem wsame_any (X Y : Nat → Prop) (a b : Value) (l k : List Nat) (w : World) (ha : Ws X w a l) (hb : Ws Y w b k) :
    Calls Tryz.prog 13 #[a, b] w fun e w' => e = .returned (.bool (decide (l = k))) ∧ Bel w w' := by
  by_cases c : l.length = k.length
  · rcases ha with ⟨rfl, p, cap, rfl⟩ | ⟨b1, off1, cap1, rfl, hn, hc, hbig, _, hg⟩
    · obtain ⟨q, cap2, rfl, _⟩ := hb.slice
      have e : k = [] := List.length_eq_zero_iff.1 (by simpa using c.symm)
      subst e
      rw [decide_eq_true rfl]
      clear hb
      go_enter Tryz.func13, Tryz.ntmps13
      go_wp2
      go_loop [5] (fun i => i = .int .i64 0) (fun _ => 0)
      case atStart => rfl
      case round =>
        obtain rfl := hrel
        go_wp2
        go_ret
        exact ⟨rfl, Bel.refl _⟩
    · rcases hb with ⟨rfl, _⟩ | ⟨b2, off2, cap2, rfl, _, hc2, hbig2, _, hh⟩
      · exact absurd hn (by rw [c]; simp)
      · obtain ⟨R, hR⟩ : ∃ R, decide (l = k) = R := ⟨_, rfl⟩
        rw [hR]
        have hidR := Lib.hid (And.intro hR c)
        have hidc := Lib.hid (And.intro hg hh)
        obtain ⟨n, hln⟩ : ∃ n, l.length = n := ⟨_, rfl⟩
        rw [hln] at c
        have hidn := Lib.hid (And.intro hln c)
        rw [← c] at hc2 ⊢
        rw [hln] at hn hc ⊢
        clear hR hg hh c hln
        go_enter Tryz.func13, Tryz.ntmps13
        go_wp2
        go_loopw [5] (fun i wr => ∃ j : Nat, j ≤ n ∧ i = .int .i64 (j : Nat) ∧ (∀ q, q < j → l[q]? = k[q]?) ∧ Bel w wr) (fun i _ => n - (intOf i).toNat)
        case atStart => exact ⟨0, Nat.zero_le _, rfl, fun q hq => absurd hq (Nat.not_lt_zero _), Bel.refl _⟩
        case round =>
          obtain ⟨j, hj, rfl, hall, hbr⟩ := hrel
          by_cases cj : j < n
          · obtain ⟨x, hx⟩ : ∃ x, l[j]? = some x := ⟨l[j]'(by rw [hidn.out.1]; exact cj), List.getElem?_eq_getElem _⟩
            obtain ⟨y, hy⟩ : ∃ y, k[j]? = some y := ⟨k[j]'(by rw [← hidn.out.2]; exact cj), List.getElem?_eq_getElem _⟩
            have c1 := cell_bel hbr (hidc.out.1 j x hx)
            have c2 := cell_bel hbr (hidc.out.2 j y hy)
            have kI : (j : Int) < (n : Int) := by omega
            have k0 : (0 : Int) ≤ (j : Int) := by omega
            by_cases e : x = y
            · subst e
              have hid := Lib.hid (And.intro hall (And.intro (hx.trans hy.symm) hbr))
              clear hall hbr hx hy
              go_wp2
              go_quiet (fail)
              go_wp2
              go_roundw
              case rel => exact ⟨j + 1, by omega, by go_num, fun q hq => by
                by_cases d : q = j
                · rw [d]; exact hid.out.2.1
                · exact hid.out.1 q (by omega), hid.out.2.2.then_drewN _⟩
              case measure => simp only [intOf]; omega
            · have no : decide (l = k) = false := decide_eq_false fun z => by
                subst z
                rw [hx] at hy
                exact e (Option.some.inj hy)
              have hR := hidR.out.1
              rw [no] at hR
              subst hR
              have e2 : ((x : Int) != (y : Int)) = true := by rw [bne_iff_ne]; omega
              have e3 : ¬ ((x : Int) = (y : Int)) := by omega
              have hid := Lib.hid hbr
              clear hall no hx hy e hbr
              go_wp2
              go_quiet (fail)
              go_wp2
              go_ret
              exact ⟨rfl, hid.out.then_drewN _⟩
          · obtain rfl : j = n := by omega
            have hR := hidR.out.1
            rw [decide_eq_true (eq_upto hidR.out.2 (by rw [hidn.out.1]; exact hall))] at hR
            subst hR
            clear hall
            go_wp2
            go_ret
            exact ⟨rfl, hbr⟩
  · rw [decide_eq_false fun z => c (by rw [z])]
    obtain ⟨p1, c1, rfl, _⟩ := ha.slice
    obtain ⟨p2, c2, rfl, _⟩ := hb.slice
    have e2 : ((l.length : Int) != (k.length : Int)) = true := by rw [bne_iff_ne]; omega
    have e3 : ¬ ((l.length : Int) = (k.length : Int)) := by omega
    clear ha hb c
    generalize l.length = n at *
    generalize k.length = m at *
    go_enter Tryz.func13, Tryz.ntmps13
    go_wp2
    go_ret
    exact ⟨rfl, Bel.refl _⟩

/-- is a configuration more than a statement looks at? -/
def _root_.Go.Proofs.YthokalcibjjihaaGreatDoor.Cf.great7 (c : Cf) : Prop := ¬ (c.n ≤ 50 ∧ c.m ≤ 50) ∨ 4000 < c.totR
instance (c : Cf) : Decidable c.great7 := by unfold Cf.great7; infer_instance

end Go.Proofs.YthokalcibjjihaaGreatDoor.mm
