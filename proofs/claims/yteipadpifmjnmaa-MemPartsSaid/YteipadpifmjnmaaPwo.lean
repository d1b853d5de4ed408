/- Words, All, Copy of the program's memories. -/
import Derived.Test.YteipadpifmjnmaaPcl
import Derived.Deep.RegionHeld3
namespace Go.Proofs.Yteipadpifmjnmaa
open Go.ChangeShapes Go.WideShapes Go.ChangeAt Go.RowKit Go.Deep
set_option linter.unusedVariables false

theorem pw_no (v : Value) (t x : Int) (w : World) (h : ∀ W, Bel w W → Calls Try.prog 35 #[v, .int .i64 t] W fun e w' => e = gaveUp x ∧ w' = W) :
    Calls Try.prog 14 #[v, .int .i64 t] w fun e w' => e = .returned (.tuple #[.slice none 0 0, .int .i64 x]) ∧ Bel w w' := by
  have hm := hmf
  go_enter_defers Try.func14, Try.ntmps14
  go_wp2_with (go_at_call 35; refine (h _ ((Bel.refl w).alloc _)).mono ?_; rintro e w' ⟨rfl, rfl⟩)
  have B := Bx.made (Bel.refl (w.alloc (.cells #[.int .i64 0] 30)))
  refine leaves_cons (f := 33) (args := #[.pointer (some ⟨w.heap.size, 0, none⟩)]) (by simp) (by simp [go_sem]) ?_
  refine (words_catch _ 0 x [] _ B.cell B.free).mono ?_
  rintro e u' w'' ⟨rfl, rfl, rfl⟩
  simp [Leaves, settle, results, Try.results14, go_sem]
  exact (Bel.refl w).alloc _

/-- the words of one region, where they lie -/
theorem MemAt.part {w : World} {p g1 k1 g2 k2 : Nat} {R : List (List Nat)} (h : MemAt w p g1 k1 g2 k2 R) {t : Nat} {l : List Nat} (ht : R[t]? = some l) (c : Nat) (hc : l.length ≤ c) (hk : c ≤ k1) :
    Ws (fun _ => False) w (.slice (some ⟨g1, offR R t, none⟩) l.length c) l := by
  have kb := (own_cap h.row).2.1
  refine Or.inr ⟨g1, offR R t, c, rfl, (h.full.2 t l ht).1, hc, by omega, fun x => x, fun j u hj => h.word ?_⟩
  rw [flat_at ht (List.getElem?_eq_some_iff.1 hj).1]
  exact hj

theorem pw_yes (p g1 k1 g2 k2 : Nat) (R : List (List Nat)) (t : Nat) (l : List Nat) (w : World) (hM : MemAt w p g1 k1 g2 k2 R) (ht : R[t]? = some l)
    (h : ∀ W, Bel w W → Calls Try.prog 35 #[.pointer (some ⟨p, 0, none⟩), .int .i64 (t : Nat)] W fun r w' => r = .returned (.tuple #[.int .i64 (offR R t : Nat), .int .i64 (offR R t + l.length : Nat)]) ∧ Bel W w') :
    Calls Try.prog 14 #[.pointer (some ⟨p, 0, none⟩), .int .i64 (t : Nat)] w fun e w' => (∃ lv, e = .returned (.tuple #[lv, .int .i64 0]) ∧ Ws (fun k => k < w.heap.size) w' lv l) ∧ Bel w w' := by
  have hm := hmf
  have fl := flat_len ht
  obtain ⟨nk, kb, _⟩ := own_cap hM.row
  obtain ⟨l1, l2⟩ := hM.full.2 t l ht
  obtain ⟨q, c, hsl, hq, lc, ck⟩ := run_cut g1 R.flatten.length k1 (offR R t) l.length (offR R t + l.length) rfl (by omega)
  obtain rfl := hq (by omega)
  have cl := fun W (g : Bel w W) => pcl64 _ _ l W ((hM.bel g).part ht c lc ck) l1 (by omega)
  have c0 : ∀ W, Bel w W → W.cell? ⟨p, 0, none⟩ = some (.slice (some ⟨g1, 0, none⟩) R.flatten.length k1) := fun W g => (hM.bel g).c0
  obtain ⟨b, hb⟩ : ∃ b, offR R t = b := ⟨_, rfl⟩
  obtain ⟨e, he⟩ : ∃ e, b + l.length = e := ⟨_, rfl⟩
  obtain ⟨N, hN⟩ : ∃ N, R.flatten.length = N := ⟨_, rfl⟩
  obtain ⟨m, hmm⟩ : ∃ m, l.length = m := ⟨_, rfl⟩
  rw [hb] at h hsl cl
  rw [he] at h hsl
  rw [hN] at hsl c0
  rw [hmm] at hsl cl
  have hid := Lib.hid hmm
  clear hM fl nk kb l1 l2 hq lc ck hb he hN hmm ht
  go_enter_defers Try.func14, Try.ntmps14
  go_wp2_with (first
    | (go_at_call 35
       refine (h _ ((Bel.refl w).alloc _)).mono ?_
       rintro e w' ⟨rfl, hg⟩
       have G := ((Bel.refl w).alloc (.cells #[.int .i64 0] 30)).trans hg
       have q0 := c0 _ G
       have B := Lib.hid (Bx.made hg))
    | (go_at_call 36
       refine (cl _ G).mono ?_
       rintro e w1 ⟨⟨g, cap, rfl, hO⟩, hg1⟩
       have B1 := Lib.hid (B.out.go hg1)
       have k0 := B1.out.cell
       have f0 := B1.out.free
       have hO' := Lib.hid hO
       clear hO))
  obtain ⟨_, _, W2, hW2, hb2, c2, X2⟩ := box_store (x := .int .i64 0) B1.out.heap
  obtain ⟨f2, _, W3, hW3, hb3, c3, X3⟩ := box_store (x := .int .i64 0) hb2
  rw [hW2]
  refine leaves_cons (f := 33) (args := #[.pointer (some ⟨w.heap.size, 0, none⟩)]) (by simp) (by simp [go_sem]) ?_
  refine (words_idle _ 0 _ c2 f2).mono ?_
  rintro e u' w'' ⟨rfl, rfl, rfl⟩
  rw [hW3]
  simp [Leaves, settle, results, Try.results14, go_sem, c3]
  have hgl := (hO'.out.lt g rfl)
  have sz := hg.size
  rw [size_alloc1] at sz
  have hE := hid.out
  subst hE
  refine ⟨?_, ?_⟩
  · have O3 : Own64 w'.heap.size W3 (.slice (some ⟨g, 0, none⟩) l.length cap) l := own_heap hO'.out ((X3.block _ (by have := X2.size; omega) (by omega)).trans (X2.block _ hgl.2 (by omega)))
    exact O3.ws fun k hk e hx => by
      have := hgl.1
      injection e with e
      omega
  · have E := ((B1.out.bel.exc (X := fun _ => False)).new X2 (fun k hk => Or.inl (by omega))).new X3 (fun k hk => Or.inl (by omega))
    exact ⟨E.os, E.tape, E.output, E.size, fun k hk => E.block k hk fun x => x⟩

/-! All. -/
theorem pa_none (v : Value) (w : World) (h : NoMem w v) :
    Calls Try.prog 20 #[v] w fun e w' => e = .returned (.slice none 0 0) ∧ w' = w := by
  have hx := pex_none v w h
  clear h
  go_enter Try.func20, Try.ntmps20
  go_wp2_with (go_at_call 41; refine hx.mono ?_; rintro e w' ⟨rfl, rfl⟩)
  go_ret
  exact ⟨rfl, rfl⟩

theorem flat_bd {R : List (List Nat)} (h : RmFull R) (h1 : 1 ≤ R.length) : 1 ≤ R.flatten.length ∧ R.flatten.length ≤ 1000000 := by
  have a := take_flat_len h R.length
  rw [List.take_length] at a
  have b := h.1
  obtain ⟨c, _⟩ := h.2 0 R[0] (List.getElem?_eq_getElem (by omega))
  have d := flat_len (List.getElem?_eq_getElem (l := R) (i := 0) (by omega))
  refine ⟨by omega, ?_⟩
  have := Nat.mul_le_mul_right 100000 b
  omega
theorem MemAt.ws {w : World} {p g1 k1 g2 k2 : Nat} {R : List (List Nat)} (h : MemAt w p g1 k1 g2 k2 R) : Ws (fun _ => False) w (.slice (some ⟨g1, 0, none⟩) R.flatten.length k1) R.flatten :=
  Own64.ws (B := 0) h.row fun k _ _ x => x
theorem MemAt.has {w : World} {p g1 k1 g2 k2 : Nat} {R : List (List Nat)} (h : MemAt w p g1 k1 g2 k2 R) : Calls Try.prog 41 #[.pointer (some ⟨p, 0, none⟩)] w fun e w' => e = .returned (.bool true) ∧ w' = w :=
  pex_yes p (R.length + 1) k2 _ w h.c1 (by omega) (by have := h.full.1; omega)

theorem pa_yes (p g1 k1 g2 k2 : Nat) (R : List (List Nat)) (w : World) (hM : MemAt w p g1 k1 g2 k2 R) :
    Calls Try.prog 20 #[.pointer (some ⟨p, 0, none⟩)] w fun e w' => (∃ g cap, e = .returned (.slice (some ⟨g, 0, none⟩) R.flatten.length cap) ∧ Own64 w.heap.size w' (.slice (some ⟨g, 0, none⟩) R.flatten.length cap) R.flatten) ∧ Bel w w' := by
  obtain ⟨f1, f2⟩ := flat_bd hM.full hM.pos
  have hx := hM.has
  have cl := pcl64 _ _ _ w hM.ws f1 f2
  have c0 := hM.c0
  clear hM f1 f2
  generalize R.flatten = L at *
  go_enter Try.func20, Try.ntmps20
  go_wp2_with (first
    | (go_at_call 41; refine hx.mono ?_; rintro e w' ⟨rfl, rfl⟩)
    | (go_at_call 36; refine cl.mono ?_; rintro e w1 ⟨⟨g, cap, rfl, hO⟩, hg1⟩; have hO' := Lib.hid hO; clear hO))
  go_ret
  exact ⟨⟨g, cap, rfl, hO'.out⟩, hg1⟩

/-! Copy. -/
theorem pc_none (v : Value) (w : World) (h : NoMem w v) :
    Calls Try.prog 19 #[v] w fun e w' => e = .returned (.pointer none) ∧ w' = w := by
  have hx := pex_none v w h
  clear h
  go_enter Try.func19, Try.ntmps19
  go_wp2_with (go_at_call 41; refine hx.mono ?_; rintro e w' ⟨rfl, rfl⟩)
  go_ret
  exact ⟨rfl, rfl⟩

/-- a memory, made out of two rows of its own -/
theorem mem_made {w1 w2 : World} {B ga ka gi ki : Nat} {R : List (List Nat)} (hA : Own64 B w1 (.slice (some ⟨ga, 0, none⟩) R.flatten.length ka) R.flatten) (hI : w2.ownsRow w1.heap.size 3 1 (.slice (some ⟨gi, 0, none⟩) (R.length + 1) ki) (R.length + 1) (eL R)) (hs : Bel w1 w2) (hf : RmFull R) (hp : 1 ≤ R.length) (hB : B ≤ w1.heap.size) :
    IsMem (w2.alloc (.cells #[.slice (some ⟨ga, 0, none⟩) R.flatten.length ka, .slice (some ⟨gi, 0, none⟩) (R.length + 1) ki] 57)) (.pointer (some ⟨w2.heap.size, 0, none⟩)) B (w2.heap.size + 1) R := by
  obtain ⟨a1, a2⟩ := hA.lt ga rfl
  obtain ⟨i1, i2⟩ := hI.lt gi rfl
  have sz := hs.size
  have g3 := (Bel.refl w2).alloc (.cells #[.slice (some ⟨ga, 0, none⟩) R.flatten.length ka, .slice (some ⟨gi, 0, none⟩) (R.length + 1) ki] 57)
  refine ⟨_, _, _, _, _, rfl, ⟨by omega, by omega⟩, ⟨a1, by omega⟩, ⟨by omega, by omega⟩, heap_alloc_new _ _, ?_, ?_, by omega, by omega, by omega, hf, hp⟩
  · exact own_base (own_heap hA ((g3.block _ (by omega)).trans (hs.block _ a2))) (Nat.zero_le _)
  · exact own_base (own_heap hI (g3.block _ i2)) (Nat.zero_le _)

set_option maxHeartbeats 2000000 in
theorem pc_yes (p g1 k1 g2 k2 : Nat) (R : List (List Nat)) (w : World) (hM : MemAt w p g1 k1 g2 k2 R) :
    Calls Try.prog 19 #[.pointer (some ⟨p, 0, none⟩)] w fun e w' => (∃ q, e = .returned (.pointer (some q)) ∧ IsMem w' (.pointer (some q)) w.heap.size w'.heap.size R) ∧ Bel w w' := by
  have hx := hM.has
  have ca : ∀ W, Bel w W → Calls Try.prog 20 #[.pointer (some ⟨p, 0, none⟩)] W fun e w1 => (∃ ga ka, e = .returned (.slice (some ⟨ga, 0, none⟩) R.flatten.length ka) ∧ Own64 w.heap.size w1 (.slice (some ⟨ga, 0, none⟩) R.flatten.length ka) R.flatten) ∧ Bel w w1 := fun W g => by
    refine (pa_yes p g1 k1 g2 k2 R W (hM.bel g)).mono ?_
    rintro e w1 ⟨⟨ga, ka, rfl, o⟩, b⟩
    exact ⟨⟨ga, ka, rfl, own_base o (Nat.le_trans g.size (o.lt ga rfl).1)⟩, g.trans b⟩
  have ci : ∀ W, Bel w W → Calls Try.prog 42 #[.slice (some ⟨g2, 0, none⟩) (R.length + 1) k2] W fun e w1 => (∃ ga ka, e = .returned (.slice (some ⟨ga, 0, none⟩) (R.length + 1) ka) ∧ w1.ownsRow W.heap.size 3 1 (.slice (some ⟨ga, 0, none⟩) (R.length + 1) ka) (R.length + 1) (eL R)) ∧ Bel w w1 ∧ RowKit.Hid (Bel W w1) := fun W g => by
    refine (pcli g2 k2 R W (hM.bel g).edg hM.full.1).mono ?_
    rintro e w1 ⟨⟨ga, ka, rfl, o⟩, b⟩
    exact ⟨⟨ga, ka, rfl, o⟩, g.trans b, Lib.hid b⟩
  have kp : ∀ W, Bel w W → Bel w W ∧ W.cell? ⟨p, 1, none⟩ = some (.slice (some ⟨g2, 0, none⟩) (R.length + 1) k2) := fun W g => ⟨g, (hM.bel g).c1⟩
  have c1 := hM.c1
  have hid := Lib.hid (And.intro hM.full hM.pos)
  clear hM
  obtain ⟨m, hm⟩ : ∃ m, R.length + 1 = m := ⟨_, rfl⟩
  obtain ⟨n, hn⟩ : ∃ n, R.flatten.length = n := ⟨_, rfl⟩
  rw [hm] at ci kp c1
  rw [hn] at ca
  have hmn := Lib.hid (And.intro hm hn)
  clear hm hn
  go_enter Try.func19, Try.ntmps19
  go_wp2_with (go_at_call 41; refine hx.mono ?_; rintro e w' ⟨rfl, rfl⟩)
  have g0 := Bel.refl w'
  go_region_held3 (fun W => Bel w' W ∧ W.cell? ⟨p, 1, none⟩ = some (.slice (some ⟨g2, 0, none⟩) m k2))
    (first | with_reducible exact kp _ (by assumption) | with_reducible exact kp _ (Bel.drew (by assumption)) | with_reducible exact kp _ (Bel.alloc (by assumption) _))
    (first
      | (go_at_call 20; refine (ca _ (by first | assumption | exact Bel.drew (by assumption))).mono ?_; rintro e w1 ⟨⟨ga, ka, rfl, hO⟩, hg1⟩; have hA := Lib.hid hO; clear hO)
      | (go_at_call 42; refine (ci _ (by first | assumption | exact Bel.drew (by assumption))).mono ?_; rintro e w2 ⟨⟨gi, ki, rfl, hO⟩, hg2, hs2⟩; have hI := Lib.hid hO; clear hO))
  go_wp2
  go_ret
  obtain ⟨rfl, rfl⟩ := hmn.out
  refine ⟨⟨_, rfl, ?_⟩, hg2.alloc _⟩
  rw [size_alloc1]
  exact mem_made hA.out hI.out hs2.out hid.out.1 hid.out.2 hg1.size

end Go.Proofs.Yteipadpifmjnmaa
