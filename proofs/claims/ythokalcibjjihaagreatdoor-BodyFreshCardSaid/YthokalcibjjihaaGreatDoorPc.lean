/- Slots and Pages of the program's plans: sums over the parts. -/
import Derived.Test.YthokalcibjjihaaGreatDoorPb
namespace Go.Proofs.YthokalcibjjihaaGreatDoor
open Go.ChangeShapes Go.WideShapes Go.ChangeAt Go.RowKit Go.Deep Go.Shelf
attribute [local go_sem] Oper.semAt_some

/-- a block of cells abides -/
theorem blk_own {β : Type} (B : Nat) (o : Obj) (ho : o.isCells = true) : Own (fun (_ : β) W => W.heap[B]? = some o) := fun s X Y row hs hg hrow => by
  refine (hg.block B (Array.getElem?_eq_some_iff.1 hs).1 (fun e => ?_)).trans hs
  obtain ⟨o', h1, h2⟩ := hrow B e.symm
  rw [hs] at h1
  cases h1
  rw [ho] at h2
  cases h2
theorem blk_cell {W : World} {B : Nat} {vs : Array Value} {t : TypeId} {m : Nat × Nat} (h : W.heap[B]? = some (.cells vs t m)) (j : Nat) : W.cell? ⟨B, j, none⟩ = vs[j]? := by simp [World.cell?, h]

/-- the block of a part -/
abbrev pblk (a b c d e f g : Nat) : Obj := .cells #[.int .i64 a, .int .i64 b, .int .i64 c, .int .i64 d, .int .i64 e, .int .i64 f, .int .i64 g] 136
abbrev Pl.blk (P : Pl) (k : Nat) : Obj := pblk k (P.f k) (P.e k) (P.fo k) (P.s k) (P.po k) (P.p k)

/-- the sum over what has come -/
def accN (f : Nat → Nat) (n : Nat) (pre : List Nat) : Nat := (pre.map fun x => f (cl n x)).sum
theorem accN_snoc (f : Nat → Nat) (n x : Nat) (pre : List Nat) : accN f n (pre ++ [x]) = accN f n pre + f (cl n x) := by unfold accN; simp
theorem accN_upto (f : Nat → Nat) {n : Nat} : ∀ {k : Nat}, k ≤ n → accN f n (upto k) = sumN f k
  | 0, _ => rfl
  | k + 1, h => by rw [upto_succ, accN_snoc, accN_upto f (by omega), cl_eq (by omega)]; rfl
theorem accN_le {f : Nat → Nat} {n B : Nat} (h : ∀ k, k < n → f k ≤ B) (hn : 1 ≤ n) : ∀ {pre : List Nat}, accN f n pre ≤ pre.length * B
  | [] => Nat.zero_le _
  | x :: pre => by
    have a := accN_le h hn (pre := pre)
    have b := h (cl n x) (by unfold cl; omega)
    show f (cl n x) + accN f n pre ≤ (pre.length + 1) * B
    rw [Nat.add_mul, Nat.one_mul]
    omega

theorem two_at {w W : World} {a c : Obj} (h : W = (w.alloc a).alloc c) : W.heap.size = w.heap.size + 2 ∧ Bel w W ∧ W.heap[w.heap.size]? = some a ∧ W.heap[w.heap.size + 1]? = some c := by
  subst h
  have s : (w.alloc a).heap.size = w.heap.size + 1 := World.size_alloc ..
  have s2 : ((w.alloc a).alloc c).heap.size = (w.alloc a).heap.size + 1 := World.size_alloc ..
  refine ⟨by omega, ((Bel.refl w).alloc a).alloc c, ?_, ?_⟩
  · exact (Below.heap_alloc (w.alloc a) c _ (by omega)).trans (World.alloc_heap_new w a)
  · have := World.alloc_heap_new (w.alloc a) c
    rw [s] at this
    exact this

set_option maxRecDepth 100000 in
set_option maxHeartbeats 4000000 in
theorem pslots_at {b g off cap : Nat} {P : Pl} (w : World) (h : PlanAt w b g off cap P) (hn : 1 ≤ P.n) (hn8 : P.n ≤ 8) (hS : ∀ k, k < P.n → P.s k ≤ 4096) :
    Calls Tryz.prog 73 #[.pointer (some ⟨b, 0, none⟩)] w fun e w' => e = .returned (.int .i64 (P.S : Nat)) ∧ Bel w w' := by
  refine (callsIn_wide (n := 3)).1 ?_
  refine callsIn_of_wp_marks Tryz.func73 rfl trivial ?_ rfl
  simp only [Tryz.ntmps73, List.size_toArray, List.length_cons, List.length_nil, Nat.reduceAdd, Nat.reduceSub, Array.replicate_succ, Array.replicate_zero, List.push_toArray, List.append_toArray, List.nil_append, List.cons_append]
  gi_wp2_with (refine ⟨trivial, ?_⟩; gi_at_call 110; refine (callsIn_wide.2 (all_any _ _)).mono ?_; rintro e w' ⟨rfl, hw⟩)
  obtain ⟨hs, hB, b0, b1⟩ := two_at hw
  rw [← hw]
  clear hw
  have b0 : Boxed w' w.heap.size 3 (.int .i64 (accN P.s P.n [] : Nat)) := b0
  have h' := h.bel hB
  have hb := h.1
  have hg := h.2.1
  refine wpIn_rangeFunc_ownH rfl (by omega) (gf := 131) (lb := #[.pointer (some ⟨w.heap.size + 1, 0, none⟩)]) rfl trivial (enters_of Tryz.func131 (by kernel_rfl) rfl)
    (encs := fun x => #[P.pt (cl P.n x)]) (Kp := Below w.heap.size) (S := fun ys => ys = upto P.n) (Sp := fun pre => ∃ k, k ≤ P.n ∧ pre = upto k) (N := P.n) (w0 := w')
    (fun l J Jx W hW hJ _ hY h0 => all1_row 2 (by omega) l _ w.heap.size b g off cap P hb hg J Jx W.heap.size hJ hY W (cell_below hW (show w.heap.size + 1 < _ by omega) (blk_cell b1 0)) (h'.below hW (by omega) (by omega)) hn h0 (by have := hW.size; omega))
    belowK_t (belowK_b (by omega)) (Below.refl _ _) (fun _ => rfl)
    (fun pre W => Boxed W w.heap.size 3 (.int .i64 (accN P.s P.n pre : Nat)) ∧ Below w.heap.size w' W)
    (fun c pre W => False)
    (OwnFrom.and (Own.from (boxed_own _ _ _) _) (ownFrom_below (by omega) (by omega)))
    (fun c => fun s A B row hs hg hr => hs)
    ⟨b0, Below.refl _ _⟩
    (fun x a' W => ∃ Bx, w.heap.size < Bx ∧ W.heap[Bx]? = some (P.blk (cl P.n x)) ∧
      a' = { tmps := #[.pointer (some ⟨b, 0, none⟩), undef, .int .i64 0, .pointer (some ⟨w.heap.size, 0, none⟩), .pointer (some ⟨Bx, 0, none⟩), .pointer (some ⟨b, 0, none⟩),
        .func (.func 131) #[] #[.pointer (some ⟨w.heap.size + 1, 0, none⟩)], P.pt (cl P.n x), undef, undef, undef, undef, undef, undef], defers := [] })
    (fun x a' => fun s A B row hs hg hr => by
      obtain ⟨Bx, h1, h2, h3⟩ := hs
      exact ⟨Bx, h1, blk_own (β := Unit) Bx _ rfl () A B row h2 hg (fun r e => (hr r e).2), h3⟩) ?assign ?body ?done ?stop
  case assign =>
    rintro l pre x W K ⟨hI, hBW⟩ hK
    have hsz := hBW.size
    gi_wp2
    exact hK _ _ ((KeepsOthers.alloc _ _).from _) ((Below.refl _ W).alloc (by omega) _) ⟨hI.alloc _, hBW.alloc (by omega) _⟩ ⟨W.heap.size, by omega, World.alloc_heap_new W _, rfl⟩
  case body =>
    rintro l pre x a' W hl ⟨r, hr⟩ ⟨hI, hBW⟩ ⟨Bx, hBx, bX, rfl⟩ hlt
    have hacc := accN_le hS hn (pre := pre)
    have hlen : pre.length * 4096 ≤ 32768 := by omega
    have sx := hS (cl P.n x) (by unfold cl; omega)
    have ec := accN_snoc P.s P.n x pre
    have c0 := hI.cell
    have f0 := hI.frozen
    have cx := blk_cell bX 4
    have kp := KeepsOthers.setCell W ⟨w.heap.size, 0, none⟩ (.int .i64 (accN P.s P.n (pre ++ [x]) : Nat))
    have kb := (Below.refl w.heap.size W).setCell (p := ⟨w.heap.size, 0, none⟩) (Nat.le_refl _) (.int .i64 (accN P.s P.n (pre ++ [x]) : Nat))
    have ki := hI.set (.int .i64 (accN P.s P.n (pre ++ [x]) : Nat))
    have kw := hBW.trans kb
    change _ = some (Value.int .i64 (P.s (cl P.n x) : Nat)) at cx
    rw [ec] at kp kb ki kw
    have hid := Lib.hid (And.intro (kp.from w'.heap.size) (And.intro kb (And.intro ki (And.intro kw ec))))
    clear kp kb ki kw ec hI hBW h h' b0 b1 hr
    generalize accN P.s P.n pre = A at *
    generalize hX : P.s (cl P.n x) = X at *
    have eA : (A : Int) + (X : Int) = ((A + X : Nat) : Int) := by omega
    have lA : A + X ≤ 65536 := by omega
    generalize A + X = Z at *
    gi_wp2
    refine ⟨hid.out.1, hid.out.2.1, ?_, hid.out.2.2.2.1⟩
    rw [hid.out.2.2.2.2]
    exact hid.out.2.2.1
  case done =>
    rintro D ys W1 hD rfl ⟨hI, hBW⟩ hKD
    have e0 : accN P.s P.n (upto P.n) = P.S := accN_upto _ (Nat.le_refl _)
    rw [e0] at hI
    have c0 := hI.cell
    have hBs : Below w.heap.size w W1 := Below.trans hB hBW
    gi_wp2
    refine ⟨by simp, .inl ⟨_, _, rfl, run_takeDeferred hKD, ?_⟩⟩
    exact ⟨_, results_tmp rfl _ _ _, rfl, Below.trans hBs (belowK_b (w := w) (Nat.le_refl _) _ D _ _ (by omega) hKD rfl rfl)⟩
  case stop =>
    intro D c pre W1 _ _ hf
    exact hf.elim

set_option maxRecDepth 100000 in
set_option maxHeartbeats 4000000 in
theorem ppages_at {b g off cap : Nat} {P : Pl} (w : World) (h : PlanAt w b g off cap P) (hn : 1 ≤ P.n) (hn8 : P.n ≤ 8) (hS : ∀ k, k < P.n → P.p k ≤ 4096) :
    Calls Tryz.prog 112 #[.pointer (some ⟨b, 0, none⟩)] w fun e w' => e = .returned (.int .i64 (P.T : Nat)) ∧ Bel w w' := by
  refine (callsIn_wide (n := 3)).1 ?_
  refine callsIn_of_wp_marks Tryz.func112 rfl trivial ?_ rfl
  simp only [Tryz.ntmps112, List.size_toArray, List.length_cons, List.length_nil, Nat.reduceAdd, Nat.reduceSub, Array.replicate_succ, Array.replicate_zero, List.push_toArray, List.append_toArray, List.nil_append, List.cons_append]
  gi_wp2_with (refine ⟨trivial, ?_⟩; gi_at_call 110; refine (callsIn_wide.2 (all_any _ _)).mono ?_; rintro e w' ⟨rfl, hw⟩)
  obtain ⟨hs, hB, b0, b1⟩ := two_at hw
  rw [← hw]
  clear hw
  have b0 : Boxed w' w.heap.size 3 (.int .i64 (accN P.p P.n [] : Nat)) := b0
  have h' := h.bel hB
  have hb := h.1
  have hg := h.2.1
  refine wpIn_rangeFunc_ownH rfl (by omega) (gf := 131) (lb := #[.pointer (some ⟨w.heap.size + 1, 0, none⟩)]) rfl trivial (enters_of Tryz.func131 (by kernel_rfl) rfl)
    (encs := fun x => #[P.pt (cl P.n x)]) (Kp := Below w.heap.size) (S := fun ys => ys = upto P.n) (Sp := fun pre => ∃ k, k ≤ P.n ∧ pre = upto k) (N := P.n) (w0 := w')
    (fun l J Jx W hW hJ _ hY h0 => all1_row 2 (by omega) l _ w.heap.size b g off cap P hb hg J Jx W.heap.size hJ hY W (cell_below hW (show w.heap.size + 1 < _ by omega) (blk_cell b1 0)) (h'.below hW (by omega) (by omega)) hn h0 (by have := hW.size; omega))
    belowK_t (belowK_b (by omega)) (Below.refl _ _) (fun _ => rfl)
    (fun pre W => Boxed W w.heap.size 3 (.int .i64 (accN P.p P.n pre : Nat)) ∧ Below w.heap.size w' W)
    (fun c pre W => False)
    (OwnFrom.and (Own.from (boxed_own _ _ _) _) (ownFrom_below (by omega) (by omega)))
    (fun c => fun s A B row hs hg hr => hs)
    ⟨b0, Below.refl _ _⟩
    (fun x a' W => ∃ Bx, w.heap.size < Bx ∧ W.heap[Bx]? = some (P.blk (cl P.n x)) ∧
      a' = { tmps := #[.pointer (some ⟨b, 0, none⟩), undef, .int .i64 0, .pointer (some ⟨w.heap.size, 0, none⟩), .pointer (some ⟨Bx, 0, none⟩), .pointer (some ⟨b, 0, none⟩),
        .func (.func 131) #[] #[.pointer (some ⟨w.heap.size + 1, 0, none⟩)], P.pt (cl P.n x), undef, undef, undef, undef, undef, undef], defers := [] })
    (fun x a' => fun s A B row hs hg hr => by
      obtain ⟨Bx, h1, h2, h3⟩ := hs
      exact ⟨Bx, h1, blk_own (β := Unit) Bx _ rfl () A B row h2 hg (fun r e => (hr r e).2), h3⟩) ?assign ?body ?done ?stop
  case assign =>
    rintro l pre x W K ⟨hI, hBW⟩ hK
    have hsz := hBW.size
    gi_wp2
    exact hK _ _ ((KeepsOthers.alloc _ _).from _) ((Below.refl _ W).alloc (by omega) _) ⟨hI.alloc _, hBW.alloc (by omega) _⟩ ⟨W.heap.size, by omega, World.alloc_heap_new W _, rfl⟩
  case body =>
    rintro l pre x a' W hl ⟨r, hr⟩ ⟨hI, hBW⟩ ⟨Bx, hBx, bX, rfl⟩ hlt
    have hacc := accN_le hS hn (pre := pre)
    have hlen : pre.length * 4096 ≤ 32768 := by omega
    have sx := hS (cl P.n x) (by unfold cl; omega)
    have ec := accN_snoc P.p P.n x pre
    have c0 := hI.cell
    have f0 := hI.frozen
    have cx := blk_cell bX 6
    have kp := KeepsOthers.setCell W ⟨w.heap.size, 0, none⟩ (.int .i64 (accN P.p P.n (pre ++ [x]) : Nat))
    have kb := (Below.refl w.heap.size W).setCell (p := ⟨w.heap.size, 0, none⟩) (Nat.le_refl _) (.int .i64 (accN P.p P.n (pre ++ [x]) : Nat))
    have ki := hI.set (.int .i64 (accN P.p P.n (pre ++ [x]) : Nat))
    have kw := hBW.trans kb
    change _ = some (Value.int .i64 (P.p (cl P.n x) : Nat)) at cx
    rw [ec] at kp kb ki kw
    have hid := Lib.hid (And.intro (kp.from w'.heap.size) (And.intro kb (And.intro ki (And.intro kw ec))))
    clear kp kb ki kw ec hI hBW h h' b0 b1 hr
    generalize accN P.p P.n pre = A at *
    generalize hX : P.p (cl P.n x) = X at *
    have eA : (A : Int) + (X : Int) = ((A + X : Nat) : Int) := by omega
    have lA : A + X ≤ 65536 := by omega
    generalize A + X = Z at *
    gi_wp2
    refine ⟨hid.out.1, hid.out.2.1, ?_, hid.out.2.2.2.1⟩
    rw [hid.out.2.2.2.2]
    exact hid.out.2.2.1
  case done =>
    rintro D ys W1 hD rfl ⟨hI, hBW⟩ hKD
    have e0 : accN P.p P.n (upto P.n) = P.T := accN_upto _ (Nat.le_refl _)
    rw [e0] at hI
    have c0 := hI.cell
    have hBs : Below w.heap.size w W1 := Below.trans hB hBW
    gi_wp2
    refine ⟨by simp, .inl ⟨_, _, rfl, run_takeDeferred hKD, ?_⟩⟩
    exact ⟨_, results_tmp rfl _ _ _, rfl, Below.trans hBs (belowK_b (w := w) (Nat.le_refl _) _ D _ _ (by omega) hKD rfl rfl)⟩
  case stop =>
    intro D c pre W1 _ _ hf
    exact hf.elim

end Go.Proofs.YthokalcibjjihaaGreatDoor
