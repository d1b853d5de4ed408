/- Of, Round and Waste of the program. -/
import Derived.Test.YtacncopgmleoeaaSea
namespace Go.Proofs.Ytacncopgmleoeaa
open Go.ChangeShapes Go.WideShapes Go.ChangeAt Go.RowKit

theorem two (w : World) (a b : Obj) :
    ((w.alloc a).alloc b).heap[w.heap.size]? = some a ∧ ((w.alloc a).alloc b).heap[w.heap.size + 1]? = some b := by
  have s1 : (w.alloc a).heap.size = w.heap.size + 1 := by show (w.heap.push a).size = _; simp
  refine ⟨?_, ?_⟩
  · rw [Below.heap_alloc _ _ _ (by omega)]; exact (MapKept.heap_alloc w a).1
  · rw [← s1]; exact (MapKept.heap_alloc _ b).1

theorem bel_two (w : World) (a b : Obj) : Bel w ((w.alloc a).alloc b) := ((Bel.refl w).alloc a).alloc b

set_option maxHeartbeats 1000000 in
/-- Of of the program -/
theorem of_any (v : Value) (n : Nat) (F : Nat → Int) (u : Int) (w : World) (h : Nums w v n F) :
    Calls Try.prog 7 #[v, .int .i64 u] w fun e w' => e = .returned (.tuple #[.int .i64 (ofN n F u : Nat), .int .i64 (ofE n F u)]) ∧ Bel w w' := by
  by_cases ok : Valid n F
  · rcases h with ⟨rfl, _⟩ | ⟨b, off, cap, rfl, h1, h2, h3, h4⟩
    · exact absurd ok.1 (by omega)
    · have hb := bel_two w (.cells #[.slice (some ⟨b, off, none⟩) n cap] 22) (.cells #[.int .i64 u] 3)
      obtain ⟨t1, t2⟩ := two w (.cells #[.slice (some ⟨b, off, none⟩) n cap] 22) (.cells #[.int .i64 u] 3)
      have ch := check_any (.slice (some ⟨b, off, none⟩) n cap) n F _ (Nums.bel (Or.inr ⟨b, off, cap, rfl, h1, h2, h3, h4⟩) hb)
      rw [checkV_ok ok] at ch
      have ca := cell_of_one t1
      have cx := cell_of_one t2
      have sc := search_any _ _ b off cap n u F _ ok.2.1 ok.2.2 ca cx fun j hj => cell_bel hb (h4 j hj)
      clear t1 t2
      obtain ⟨c1, c2, c3⟩ := cls_spec F u n
      by_cases f : fits n F u
      · obtain ⟨e1, e2, _, _⟩ := of_fits f
        rw [e1, e2]
        obtain ⟨_, f1, f2⟩ := f
        have t1 : decide (u < 1) = false := decide_eq_false (by omega)
        have t2 : ((cls F u n : Int) == (n : Int)) = false := by rw [beq_eq_false_iff_ne]; omega
        have t3 : ¬ ((cls F u n : Int) = (n : Int)) := by omega
        clear c2 c3 e1 e2 ok h4 f1 f2 c1
        generalize cls F u n = k at *
        go_enter Try.func7, Try.ntmps7
        go_wp2_with (first
          | (go_at_call 13; refine ch.mono ?_; rintro e w' ⟨rfl, hw⟩; rw [hw])
          | (go_at_call 15; refine sc.mono ?_; rintro e w' ⟨rfl, hg⟩; have ca1 := cell_bel hg ca; have cx1 := cell_bel hg cx))
        go_ret2
        exact ⟨rfl, hb.trans hg⟩
      · obtain ⟨e1, e2, _, _⟩ := of_none ok f
        rw [e1, e2]
        by_cases d : u < 1
        · clear c2 c3 e1 e2 ok h4 c1 f
          generalize cls F u n = k at *
          go_enter Try.func7, Try.ntmps7
          go_wp2_with (first
            | (go_at_call 13; refine ch.mono ?_; rintro e w' ⟨rfl, hw⟩; rw [hw])
            | (go_at_call 15; refine sc.mono ?_; rintro e w' ⟨rfl, hg⟩; have ca1 := cell_bel hg ca; have cx1 := cell_bel hg cx))
          go_ret2
          exact ⟨rfl, hb.trans hg⟩
        · have en : cls F u n = n := by
            by_cases z : cls F u n < n
            · exact absurd ⟨ok, by omega, z⟩ f
            · omega
          rw [en] at sc
          have t1 : decide (u < 1) = false := decide_eq_false d
          clear c2 c3 e1 e2 ok h4 c1 f en d
          go_enter Try.func7, Try.ntmps7
          go_wp2_with (first
            | (go_at_call 13; refine ch.mono ?_; rintro e w' ⟨rfl, hw⟩; rw [hw])
            | (go_at_call 15; refine sc.mono ?_; rintro e w' ⟨rfl, hg⟩; have ca1 := cell_bel hg ca; have cx1 := cell_bel hg cx))
          go_ret2
          exact ⟨rfl, hb.trans hg⟩
  · obtain ⟨e1, e2, _, _⟩ := of_bad (u := u) ok
    rw [e1, e2]
    obtain ⟨p, cap, rfl, hb⟩ := nums_slice h
    have hb := bel_two w (.cells #[.slice p n cap] 22) (.cells #[.int .i64 u] 3)
    obtain ⟨t1, t2⟩ := two w (.cells #[.slice p n cap] 22) (.cells #[.int .i64 u] 3)
    have ch := check_any (.slice p n cap) n F _ (Nums.bel h hb)
    rw [checkV_no ok] at ch
    have ca := cell_of_one t1
    clear t1 t2 h ok e1 e2
    go_enter Try.func7, Try.ntmps7
    go_wp2_with (go_at_call 13; refine ch.mono ?_; rintro e w' ⟨rfl, hw⟩; rw [hw])
    go_ret2
    exact ⟨rfl, hb⟩

end Go.Proofs.Ytacncopgmleoeaa
