/- A feed in memory, and its calls. -/
import Derived.Test.YtkamambgpcdonaaCH
import Derived.RegionTactic
import Derived.BigRegion
import Derived.Deep.QuietTactic
import Derived.BigQuiet
import Derived.OwnWalk
namespace Go.Proofs.Ytkamambgpcdonaa
open Go.RowKit Go.Conc

/-- A number's cell. -/
def iv (x : Int) : Value := .int .i64 x
/-- A row's buffer. -/
def bf (l : List Int) : Array Value := (l.map iv).toArray
theorem bf_size (l : List Int) : (bf l).size = l.length := by simp [bf]
theorem bf_push (l : List Int) (x : Int) : (bf l).push (.int .i64 x) = bf (l ++ [x]) := by simp [bf, iv]
theorem bf_tail (x : Int) (l : List Int) : (bf (x :: l)).extract 1 (bf (x :: l)).size = bf l := by
  simp [bf]
  rw [List.take_of_length_le (by simp)]
theorem bf_head (x : Int) (l : List Int) : (bf (x :: l)).getD 0 undef = .int .i64 x := by simp [bf, iv]
/-- A feed: room, urgent ones, others, closed. -/
structure FdAt (w : World) (base g cu co su ru so ro n : Nat) (U O : List Int) (cl : Bool) : Prop where
  n1 : 1 ≤ n
  n64 : n ≤ 64
  g0 : base ≤ g
  cu0 : base ≤ cu
  co0 : base ≤ co
  guc : cu ≠ g
  goc : co ≠ g
  cuo : cu ≠ co
  cell0 : w.cell? ⟨g, 0, none⟩ = some (.chan (some cu))
  cell1 : w.cell? ⟨g, 1, none⟩ = some (.chan (some co))
  cell2 : w.cell? ⟨g, 2, none⟩ = some (.bool cl)
  fz : w.frozen? ⟨g, 2, none⟩ = false
  hu : w.heap[cu]? = some (.chan n (bf U) false su ru false)
  ho : w.heap[co]? = some (.chan n (bf O) false so ro false)
  lu : U.length ≤ n
  lo : O.length ≤ n
def Fd (w : World) (base : Nat) (p : Value) (n : Nat) (U O : List Int) (cl : Bool) : Prop :=
  ∃ g cu co su ru so ro, p = .pointer (some ⟨g, 0, none⟩) ∧ FdAt w base g cu co su ru so ro n U O cl
theorem lt_of_some {w : World} {c : Nat} {o : Obj} (h : w.heap[c]? = some o) : c < w.heap.size := by
  rcases Nat.lt_or_ge c w.heap.size with h1 | h1
  · exact h1
  · rw [Array.getElem?_eq_none h1] at h; cases h
theorem cell_lt {w : World} {g o : Nat} {v : Value} (h : w.cell? ⟨g, o, none⟩ = some v) : g < w.heap.size := by
  simp only [World.cell?] at h
  rcases Nat.lt_or_ge g w.heap.size with h1 | h1
  · exact h1
  · rw [Array.getElem?_eq_none h1] at h; cases h
theorem FdAt.below {w w' : World} {base g cu co su ru so ro n : Nat} {U O : List Int} {cl : Bool} (h : FdAt w base g cu co su ru so ro n U O cl) (hb : Below w.heap.size w w') : FdAt w' base g cu co su ru so ro n U O cl :=
  ⟨h.n1, h.n64, h.g0, h.cu0, h.co0, h.guc, h.goc, h.cuo, (hb.cell (p := ⟨g, 0, none⟩) (cell_lt h.cell0)).trans h.cell0, (hb.cell (p := ⟨g, 1, none⟩) (cell_lt h.cell0)).trans h.cell1, (hb.cell (p := ⟨g, 2, none⟩) (cell_lt h.cell0)).trans h.cell2,
    (hb.frozen (p := ⟨g, 2, none⟩) (cell_lt h.cell0)).trans h.fz, (hb.block _ (lt_of_some h.hu)).trans h.hu, (hb.block _ (lt_of_some h.ho)).trans h.ho, h.lu, h.lo⟩
theorem Fd.below {w w' : World} {base n : Nat} {p : Value} {U O : List Int} {cl : Bool} (h : Fd w base p n U O cl) (hb : Below w.heap.size w w') : Fd w' base p n U O cl := by
  obtain ⟨g, cu, co, su, ru, so, ro, rfl, hf⟩ := h
  exact ⟨g, cu, co, su, ru, so, ro, rfl, hf.below hb⟩
theorem FdAt.setU {w : World} {base g cu co su ru so ro n : Nat} {U O : List Int} {cl : Bool} (h : FdAt w base g cu co su ru so ro n U O cl) (U' : List Int) (hl : U'.length ≤ n) (s r : Nat) :
    FdAt (w.setChan cu n (bf U') false s r false) base g cu co s r so ro n U' O cl :=
  ⟨h.n1, h.n64, h.g0, h.cu0, h.co0, h.guc, h.goc, h.cuo, (cell_setChan _ _ _ _ _ _ _ _ h.guc).trans h.cell0, (cell_setChan _ _ _ _ _ _ _ _ h.guc).trans h.cell1, (cell_setChan _ _ _ _ _ _ _ _ h.guc).trans h.cell2,
    (frozen_setChan _ _ _ _ _ _ _ _ h.guc).trans h.fz, heap_setChan _ _ _ _ _ _ _ _ (lt_of_some h.hu), (heap_setChan_ne _ _ _ _ _ _ _ _ _ h.cuo).trans h.ho, hl, h.lo⟩
theorem FdAt.setO {w : World} {base g cu co su ru so ro n : Nat} {U O : List Int} {cl : Bool} (h : FdAt w base g cu co su ru so ro n U O cl) (O' : List Int) (hl : O'.length ≤ n) (s r : Nat) :
    FdAt (w.setChan co n (bf O') false s r false) base g cu co su ru s r n U O' cl :=
  ⟨h.n1, h.n64, h.g0, h.cu0, h.co0, h.guc, h.goc, h.cuo, (cell_setChan _ _ _ _ _ _ _ _ h.goc).trans h.cell0, (cell_setChan _ _ _ _ _ _ _ _ h.goc).trans h.cell1, (cell_setChan _ _ _ _ _ _ _ _ h.goc).trans h.cell2,
    (frozen_setChan _ _ _ _ _ _ _ _ h.goc).trans h.fz, (heap_setChan_ne _ _ _ _ _ _ _ _ _ (Ne.symm h.cuo)).trans h.hu, heap_setChan _ _ _ _ _ _ _ _ (lt_of_some h.ho), h.lu, hl⟩

theorem made_nil (w : World) : Calls Try.prog 18 #[.pointer none] w fun e w' => e = .returned (.bool false) ∧ w' = w := by
  go_enter Try.func18, Try.ntmps18
  go_wp2
  go_ret
  exact ⟨rfl, rfl⟩
theorem made_zero {g : Nat} (w : World) (h : w.cell? ⟨g, 0, none⟩ = some (.chan none)) : Calls Try.prog 18 #[.pointer (some ⟨g, 0, none⟩)] w fun e w' => e = .returned (.bool false) ∧ w' = w := by
  have hq := fun w => run_neq_chan_nil (P := Try.prog) w _ _ _ (Option.none) Try.underlying43
  go_enter Try.func18, Try.ntmps18
  go_wp2
  go_ret
  exact ⟨rfl, rfl⟩
theorem made_some {g c : Nat} (w : World) (h : w.cell? ⟨g, 0, none⟩ = some (.chan (some c))) : Calls Try.prog 18 #[.pointer (some ⟨g, 0, none⟩)] w fun e w' => e = .returned (.bool true) ∧ w' = w := by
  have hq := fun w => run_neq_chan_nil (P := Try.prog) w _ _ _ (some c) Try.underlying43
  go_enter Try.func18, Try.ntmps18
  go_wp2
  go_ret
  exact ⟨rfl, rfl⟩
theorem bytes3 : ∃ i, Try.prog.info? 3 = some i ∧ i.bytes = 8 := by
  have h : (Try.prog.info? 3).map (·.bytes) = some 8 := by kernel_rfl
  obtain ⟨i, hi, hb⟩ := Option.map_eq_some_iff.1 h
  exact ⟨i, hi, hb⟩
theorem mkc (n : Nat) (hn : n ≤ 64) (w : World) : (Instr.makeChan 43 (.int .i64 (n : Int))).run Try.prog w = .ok (.chan (some w.heap.size)) (w.alloc (.chan n #[] false 0 0 false)) := by
  obtain ⟨i, hi, hb⟩ := bytes3
  exact run_makeChan (P := Try.prog) (w := w) Try.underlying43 hi .i64 n (by omega) (by rw [hb]; omega)
theorem fault_new (x : Int) (w : World) (h : x < 1 ∨ 64 < x) : Calls Try.prog 8 #[.int .i64 x] w fun e w' => e = .returned (.tuple #[.pointer none, .int .i64 1]) ∧ w' = w := by
  rcases h with h | h
  · go_enter Try.func8, Try.ntmps8
    go_wp2
    go_ret2
    exact ⟨rfl, rfl⟩
  · have h2 : ¬ x < 1 := by omega
    go_enter Try.func8, Try.ntmps8
    go_wp2
    go_ret2
    exact ⟨rfl, rfl⟩
theorem new_fd (n cu co : Nat) (w : World) (T : TypeId) (h1 : 1 ≤ n) (h64 : n ≤ 64) (h : cu = w.heap.size ∧ co = w.heap.size + 1 ∨ co = w.heap.size ∧ cu = w.heap.size + 1) :
    Fd (((w.alloc (.chan n #[] false 0 0 false)).alloc (.chan n #[] false 0 0 false)).alloc (.cells #[.chan (some cu), .chan (some co), .bool false] T)).drew w.heap.size (.pointer (some ⟨w.heap.size + 1 + 1, 0, none⟩)) n [] [] false := by
  have e0 : ∀ k, k < 2 → (((w.alloc (.chan n #[] false 0 0 false)).alloc (.chan n #[] false 0 0 false)).alloc (.cells #[.chan (some cu), .chan (some co), .bool false] T)).heap[w.heap.size + k]? = some (.chan n #[] false 0 0 false) := by
    intro k hk
    rw [Below.heap_alloc _ _ _ (by simp; omega)]
    match k, hk with
    | 0, _ => rw [Below.heap_alloc _ _ _ (by simp)]; exact heap_alloc_new w _
    | 1, _ => have := heap_alloc_new (w.alloc (.chan n #[] false 0 0 false)) (.chan n #[] false 0 0 false); simpa only [World.size_alloc] using this
  have e2 := heap_alloc_new ((w.alloc (.chan n #[] false 0 0 false)).alloc (.chan n #[] false 0 0 false)) (.cells #[.chan (some cu), .chan (some co), .bool false] T)
  simp only [World.size_alloc] at e2
  refine ⟨w.heap.size + 1 + 1, cu, co, 0, 0, 0, 0, rfl, h1, h64, by omega, by omega, by omega, by omega, by omega, by omega, ?_, ?_, ?_, ?_, ?_, ?_, by simp, by simp⟩
  · simp only [World.cell?, World.drew]; rw [e2]; rfl
  · simp only [World.cell?, World.drew]; rw [e2]; rfl
  · simp only [World.cell?, World.drew]; rw [e2]; rfl
  · simp only [World.frozen?, World.drew]; rw [e2]; rfl
  · rcases h with ⟨rfl, _⟩ | ⟨_, rfl⟩
    · exact e0 0 (by omega)
    · exact e0 1 (by omega)
  · rcases h with ⟨_, rfl⟩ | ⟨rfl, _⟩
    · exact e0 1 (by omega)
    · exact e0 0 (by omega)
theorem new_any (n : Nat) (w : World) (h1 : 1 ≤ n) (h64 : n ≤ 64) : Calls Try.prog 8 #[.int .i64 (n : Int)] w fun e w' => ∃ p, e = .returned (.tuple #[p, .int .i64 0]) ∧ Fd w' w.heap.size p n [] [] false ∧ Below w.heap.size w w' := by
  have hm := fun w => mkc n h64 w
  have h2 : ¬ (n : Int) < 1 := by omega
  have h3 : ¬ (64 : Int) < n := by omega
  go_enter Try.func8, Try.ntmps8
  go_wp2
  go_region
  all_goals go_wp2
  all_goals go_ret2
  · exact ⟨_, rfl, new_fd n _ _ w _ h1 h64 (.inl ⟨rfl, rfl⟩), ((((Below.refl _ _).alloc (Nat.le_refl _) _).alloc (by simp) _).alloc (by simp; omega) _).drew⟩
  · exact ⟨_, rfl, new_fd n _ _ w _ h1 h64 (.inr ⟨rfl, rfl⟩), ((((Below.refl _ _).alloc (Nat.le_refl _) _).alloc (by simp) _).alloc (by simp; omega) _).drew⟩
theorem len_nil (w : World) : Calls Try.prog 16 #[.pointer none] w fun e w' => e = .returned (.tuple #[.int .i64 0, .int .i64 0]) ∧ w' = w := by
  go_enter Try.func16, Try.ntmps16
  go_wp2_with (go_at_call 18; refine (made_nil _).mono ?_; rintro e w' ⟨rfl, rfl⟩)
  go_ret2
  exact ⟨rfl, rfl⟩
theorem len_zero {g : Nat} (w : World) (h : w.cell? ⟨g, 0, none⟩ = some (.chan none)) : Calls Try.prog 16 #[.pointer (some ⟨g, 0, none⟩)] w fun e w' => e = .returned (.tuple #[.int .i64 0, .int .i64 0]) ∧ w' = w := by
  go_enter Try.func16, Try.ntmps16
  go_wp2_with (go_at_call 18; refine (made_zero _ h).mono ?_; rintro e w' ⟨rfl, rfl⟩)
  go_ret2
  exact ⟨rfl, rfl⟩
theorem len_at (w : World) {base g cu co su ru so ro n : Nat} {U O : List Int} {cl : Bool} (h : FdAt w base g cu co su ru so ro n U O cl) :
    Calls Try.prog 16 #[.pointer (some ⟨g, 0, none⟩)] w fun e w' => e = .returned (.tuple #[.int .i64 (U.length : Int), .int .i64 (O.length : Int)]) ∧ ∃ k, w' = w.drewN k := by
  have c0 := h.cell0
  have c1 := h.cell1
  have hu : ∀ k ty, (Builtin.len_ #[43] ty #[.chan (some cu)]).run Try.prog (w.drewN k) = .ok (.int .i64 (U.length : Int)) (w.drewN k) := fun k ty => by
    have := run_len_chan (P := Try.prog) (w := w.drewN k) 43 ty Try.underlying43 h.hu
    rw [bf_size] at this; exact this
  have ho : ∀ k ty, (Builtin.len_ #[43] ty #[.chan (some co)]).run Try.prog (w.drewN k) = .ok (.int .i64 (O.length : Int)) (w.drewN k) := fun k ty => by
    have := run_len_chan (P := Try.prog) (w := w.drewN k) 43 ty Try.underlying43 h.ho
    rw [bf_size] at this; exact this
  clear h
  go_enter Try.func16, Try.ntmps16
  go_wp2_with (go_at_call 18; refine (made_some _ c0).mono ?_; rintro e w' ⟨rfl, rfl⟩)
  go_quiet (fail)
  go_wp2
  go_ret2
  exact ⟨rfl, _, rfl⟩
theorem close_nil (w : World) : Calls Try.prog 14 #[.pointer none] w fun e w' => e = .returned (.int .i64 6) ∧ w' = w := by
  go_enter Try.func14, Try.ntmps14
  go_wp2_with (go_at_call 18; refine (made_nil _).mono ?_; rintro e w' ⟨rfl, rfl⟩)
  go_ret
  exact ⟨rfl, rfl⟩
theorem close_zero {g : Nat} (w : World) (h : w.cell? ⟨g, 0, none⟩ = some (.chan none)) : Calls Try.prog 14 #[.pointer (some ⟨g, 0, none⟩)] w fun e w' => e = .returned (.int .i64 6) ∧ w' = w := by
  go_enter Try.func14, Try.ntmps14
  go_wp2_with (go_at_call 18; refine (made_zero _ h).mono ?_; rintro e w' ⟨rfl, rfl⟩)
  go_ret
  exact ⟨rfl, rfl⟩
theorem close_shut (w : World) {base g cu co su ru so ro n : Nat} {U O : List Int} (h : FdAt w base g cu co su ru so ro n U O true) :
    Calls Try.prog 14 #[.pointer (some ⟨g, 0, none⟩)] w fun e w' => e = .returned (.int .i64 113) ∧ w' = w := by
  have c0 := h.cell0
  have c2 := h.cell2
  clear h
  go_enter Try.func14, Try.ntmps14
  go_wp2_with (go_at_call 18; refine (made_some _ c0).mono ?_; rintro e w' ⟨rfl, rfl⟩)
  go_ret
  exact ⟨rfl, rfl⟩
theorem FdAt.shut {w : World} {base g cu co su ru so ro n : Nat} {U O : List Int} {cl : Bool} (h : FdAt w base g cu co su ru so ro n U O cl) (b : Bool) : FdAt (w.setCell ⟨g, 2, none⟩ (.bool b)) base g cu co su ru so ro n U O b := by
  refine ⟨h.n1, h.n64, h.g0, h.cu0, h.co0, h.guc, h.goc, h.cuo, ?_, ?_, ?_, ?_, ?_, ?_, h.lu, h.lo⟩
  · rw [World.cell?_setCell_other _ _ _ _ (by simp)]; exact h.cell0
  · rw [World.cell?_setCell_other _ _ _ _ (by simp)]; exact h.cell1
  · exact World.cell?_setCell_same _ _ _ h.cell2
  · rw [World.frozen?_setCell]; exact h.fz
  · rw [Below.heap_setCell _ _ _ _ h.guc]; exact h.hu
  · rw [Below.heap_setCell _ _ _ _ h.goc]; exact h.ho
theorem close_open (w : World) {base g cu co su ru so ro n : Nat} {U O : List Int} (h : FdAt w base g cu co su ru so ro n U O false) :
    Calls Try.prog 14 #[.pointer (some ⟨g, 0, none⟩)] w fun e w' => e = .returned (.int .i64 0) ∧ w' = w.setCell ⟨g, 2, none⟩ (.bool true) := by
  have c0 := h.cell0
  have c2 := h.cell2
  have fz := h.fz
  clear h
  go_enter Try.func14, Try.ntmps14
  go_wp2_with (go_at_call 18; refine (made_some _ c0).mono ?_; rintro e w' ⟨rfl, rfl⟩)
  go_ret
  exact ⟨rfl, rfl⟩
end Go.Proofs.Ytkamambgpcdonaa
