/- FL18 FL19 FL20 FK1 AQR0, joined. -/
import Derived.Test.YtoenijflijfogaaGreatRC27
/- The contract of slices.symMergeCmpFunc of items (written by mkfl17.py). -/
namespace Go.Proofs.YtoenijflijfogaaGreat
open Go.RowKit Go.Shelf

end Go.Proofs.YtoenijflijfogaaGreat

/- The contract of slices.symMergeCmpFunc of items: its third road (written by mkfl19.py). -/
namespace Go.Proofs.YtoenijflijfogaaGreat
open Go.RowKit Go.Shelf

end Go.Proofs.YtoenijflijfogaaGreat

/- The contract of slices.SortStableFunc of any number of items. -/
namespace Go.Proofs.YtoenijflijfogaaGreat
open Go.RowKit Go.Shelf

end Go.Proofs.YtoenijflijfogaaGreat

/- What is known of all that comes together: the pure half of FoldKeeps; the contract of law15's Many. -/
namespace Go.Proofs.YtoenijflijfogaaGreat
open Go.RowKit

def Mn15 (fs : List Fa) (w : World) (e : Ending) (w' : World) : Prop := ∃ g, e = .returned (.bool g) ∧ (g = false → fs.length ≤ 60) ∧ w' = w
set_option maxRecDepth 100000 in
set_option maxHeartbeats 2000000 in
theorem many15_any (v : Value) (fs : List Fa) (w : World) (hF : FReads w v fs) : Calls Tryz.prog 19 #[v] w (Mn15 fs w) := by
  have HF : Hid (FReads w v fs) := hF
  obtain ⟨a, cap, rfl, hm1, hm2⟩ := hF.form
  unfold maxLen at hm2
  clear hF
  by_cases h60 : fs.length ≤ 60
  · go_enter Tryz.func19, Tryz.ntmps19
    go_wp2_with fail
    go_loopw [3] (fun i wr => ∃ k : Nat, k ≤ fs.length ∧ i = .int .i64 (k : Int) ∧ Hid (wr = w)) (fun i _ => fs.length - (intOf i).toNat)
    case atStart => exact ⟨0, by omega, rfl, rfl⟩
    case round =>
      obtain ⟨k, hk, rfl, HW⟩ := hrel
      obtain rfl := HW.out
      clear HW
      by_cases hlt : k < fs.length
      · obtain ⟨b, off, rfl, hbw, hcw, hsr, _⟩ := HF.out.at hlt
        have c0 := hcw 0 (by decide)
        simp only [c3, List.getElem_cons_zero, Nat.add_zero] at c0
        obtain ⟨D, HD⟩ := hid_ex fs[k].D
        rw [← HD.out] at hsr
        obtain ⟨va, vc, hvd, hdm⟩ := hsr.form
        have HSR : Hid (SReads wr (.slice va D.length vc) D) := by rw [← hvd]; exact hsr
        rw [hvd] at c0
        unfold maxLen at hdm
        have HSZ : Hid _ := hsr.size
        clear hcw hsr hvd HD
        by_cases h20 : D.length ≤ 20
        · go_wp2_with fail
          go_loopw [4] (fun i wq => ∃ m : Nat, m ≤ D.length ∧ i = .int .i64 (m : Int) ∧ Hid (wq = wr)) (fun i _ => D.length - (intOf i).toNat)
          case atStart => exact ⟨0, by omega, rfl, rfl⟩
          case round =>
            obtain ⟨m, hm, rfl, HW⟩ := hrel
            obtain rfl := HW.out
            clear HW
            by_cases hmt : m < D.length
            · obtain ⟨db, doff, rfl, _, d0⟩ := HSR.out.at m hmt
              have hz := HSZ.out D[m] (List.getElem_mem hmt)
              unfold maxLen at hz
              obtain ⟨X, HX⟩ := hid_ex D[m]
              rw [← HX.out] at d0 hz
              by_cases h100 : X.size ≤ 100
              · clear HX
                go_wp2_with fail
                go_roundw
                case rel => exact ⟨m + 1, by omega, by go_num, trivial⟩
                case measure => simp [intOf]; omega
              · clear HX
                go_wp2_with fail
                go_ret
                exact ⟨true, rfl, fun h => (by cases h), rfl⟩
            · obtain rfl : m = D.length := by omega
              go_wp2_with fail
              go_roundw
              case rel => exact ⟨k + 1, by omega, by go_num, trivial⟩
              case measure => simp [intOf]; omega
        · go_wp2_with fail
          go_ret
          exact ⟨true, rfl, fun h => (by cases h), rfl⟩
      · obtain rfl : k = fs.length := by omega
        go_wp2_with fail
        go_ret
        exact ⟨false, rfl, fun _ => h60, rfl⟩
  · go_enter Tryz.func19, Tryz.ntmps19
    go_wp2_with fail
    go_ret
    exact ⟨true, rfl, fun h => (by cases h), rfl⟩
end Go.Proofs.YtoenijflijfogaaGreat

/- Layer 17: Rollup, plainly; a map of rows by their dimensions' bytes. -/
namespace Go.Proofs.YtoenijflijfogaaGreat
open Go.RowKit

/-- One dimension list stands ahead of another one. -/
def lj (a b : List ByteArray) : Prop := cmpL a b < 0
instance (a b : List ByteArray) : Decidable (lj a b) := inferInstanceAs (Decidable (_ < _))
theorem lj_iff {a b : List ByteArray} : lj a b ↔ Op.bytesLess (jn a) (jn b) = true := by
  unfold lj; rw [cmpL_less, decide_eq_true_iff]
theorem lj_irr (a : List ByteArray) : ¬ lj a a := by rw [lj_iff, less_irr]; simp
theorem lj_tr {a b c : List ByteArray} (h1 : lj a b) (h2 : lj b c) : lj a c := by
  rw [lj_iff] at *; exact less_tr _ _ _ h1 h2
theorem lj_tri (a b : List ByteArray) : lj a b ∨ a = b ∨ lj b a := by
  by_cases h : cmpL a b = 0
  · exact .inr (.inl ((cmpL_zero a b).1 h))
  · have h1 := jb_less a b [] []
    have h2 := jb_less b a [] []
    by_cases h3 : lj a b
    · exact .inl h3
    · refine .inr (.inr ?_)
      rw [lj_iff] at h3 ⊢
      cases h4 : Op.bytesLess (jn b) (jn a) with
      | true => rfl
      | false => exact absurd (less_tot _ _ (fun e => h ((cmpL_zero a b).2 (jn_inj e))) (by simpa using h3)) (by rw [h4]; simp)
theorem less_bb17 : ∀ a b : List UInt8, Op.bytesLess a b = Go.bytesBefore a b
  | [], [] => rfl
  | [], _ :: _ => rfl
  | _ :: _, [] => rfl
  | x :: a, y :: b => by
    have := less_bb17 a b
    simp only [Op.bytesLess, Go.bytesBefore, this]
theorem bb_lj (a b : List ByteArray) : Go.bytesBefore (jn a) (jn b) = decide (lj a b) := by
  rw [← less_bb17, cmpL_less]; rfl
/-- A row among others. -/
def insR (x : Rw) : List Rw → List Rw
  | [] => [x]
  | y :: L => if lj x.D y.D then x :: y :: L else if x.D = y.D then { x with a := mrg y.a x.a } :: L else y :: insR x L
def pR (m : Nat) (f t : Int) (x : Rw) : Rw := ⟨pt x.D m, f, (t - f).toNat, x.a⟩
def inR (f t : Int) (x : Rw) : Bool := decide (f ≤ x.f ∧ x.f < t)
/-- Rollup's rows. -/
def rollF (m : Nat) (f t : Int) (l : List Rw) : List Rw := (l.filter (inR f t)).foldl (fun L x => insR (pR m f t x) L) []
def SrtR (L : List Rw) : Prop := L.Pairwise fun a b => lj a.D b.D
theorem rollF_snoc (m : Nat) (f t : Int) (l : List Rw) (x : Rw) : rollF m f t (l ++ [x]) = if inR f t x = true then insR (pR m f t x) (rollF m f t l) else rollF m f t l := by
  unfold rollF
  rw [List.filter_append, List.foldl_append, List.filter_cons]
  split <;> rfl
theorem insR_mem {x y : Rw} : ∀ {L : List Rw}, y ∈ insR x L → y.D = x.D ∨ ∃ z ∈ L, y.D = z.D
  | [], h => by unfold insR at h; simp at h; exact .inl (by rw [h])
  | z :: L, h => by
    unfold insR at h
    split at h
    · rcases List.mem_cons.1 h with rfl | h
      · exact .inl rfl
      · exact .inr ⟨y, h, rfl⟩
    · split at h
      · rcases List.mem_cons.1 h with rfl | h
        · exact .inl rfl
        · exact .inr ⟨y, List.mem_cons_of_mem _ h, rfl⟩
      · rcases List.mem_cons.1 h with rfl | h
        · exact .inr ⟨y, List.mem_cons_self .., rfl⟩
        · rcases insR_mem h with h | ⟨u, hu, e⟩
          · exact .inl h
          · exact .inr ⟨u, List.mem_cons_of_mem _ hu, e⟩
theorem insR_srt {x : Rw} : ∀ {L : List Rw}, SrtR L → SrtR (insR x L)
  | [], _ => by unfold insR SrtR; simp
  | z :: L, h => by
    have h' := List.pairwise_cons.1 h
    unfold insR
    split
    · rename_i hl
      refine List.pairwise_cons.2 ⟨fun y hy => ?_, h⟩
      rcases List.mem_cons.1 hy with rfl | hy
      · exact hl
      · exact lj_tr hl (h'.1 y hy)
    · split
      · rename_i _ he
        refine List.pairwise_cons.2 ⟨fun y hy => ?_, h'.2⟩
        show lj x.D y.D
        rw [he]; exact h'.1 y hy
      · rename_i h1 h2
        refine List.pairwise_cons.2 ⟨fun y hy => ?_, insR_srt h'.2⟩
        rcases insR_mem hy with e | ⟨u, hu, e⟩
        · rw [e]; rcases lj_tri x.D z.D with q | q | q
          · exact absurd q h1
          · exact absurd q h2
          · exact q
        · rw [e]; exact h'.1 u hu
theorem rollF_srt (m : Nat) (f t : Int) (l : List Rw) : SrtR (rollF m f t l) := by
  unfold rollF
  have : ∀ (l L : List Rw), SrtR L → SrtR (l.foldl (fun L x => insR (pR m f t x) L) L) := by
    intro l
    induction l with
    | nil => intro L h; exact h
    | cons x l ih => intro L h; exact ih _ (insR_srt h)
  exact this _ _ List.Pairwise.nil
theorem insR_len (x : Rw) : ∀ L : List Rw, (insR x L).length ≤ L.length + 1
  | [] => by simp [insR]
  | z :: L => by
    have := insR_len x L
    unfold insR
    split
    · simp
    · split <;> simp <;> omega
theorem rollF_len (m : Nat) (f t : Int) (l : List Rw) : (rollF m f t l).length ≤ l.length := by
  unfold rollF
  have : ∀ (l L : List Rw), (l.foldl (fun L x => insR (pR m f t x) L) L).length ≤ L.length + l.length := by
    intro l
    induction l with
    | nil => intro L; simp
    | cons x l ih => intro L; have h1 := ih (insR (pR m f t x) L); have h2 := insR_len (pR m f t x) L; simp only [List.foldl_cons, List.length_cons] at *; omega
  have h := this (l.filter (inR f t)) []
  have h2 := List.length_filter_le (inR f t) l
  simp only [List.length_nil] at h
  omega
/-! rows in memory -/
def insI (x : It) : List It → List It
  | [] => [x]
  | y :: L => if lj x.D y.D then x :: y :: L else if x.D = y.D then { x with a := mrg y.a x.a } :: L else y :: insI x L
theorem itR_ins (x : It) : ∀ L : List It, (insI x L).map itR = insR (itR x) (L.map itR)
  | [] => rfl
  | y :: L => by
    have ih := itR_ins x L
    unfold insI insR
    rw [List.map_cons]
    show _ = if lj x.D y.D then _ else if x.D = y.D then _ else _
    by_cases h1 : lj x.D y.D
    · rw [if_pos h1, if_pos h1]; rfl
    · rw [if_neg h1, if_neg h1]
      by_cases h2 : x.D = y.D
      · rw [if_pos h2, if_pos h2]; rfl
      · rw [if_neg h2, if_neg h2, List.map_cons, ih]
theorem insI_all {p : It → Prop} {x : It} (hx : ∀ y, p y → p { x with a := mrg y.a x.a }) (hx0 : p x) : ∀ {L : List It}, (∀ y ∈ L, p y) → ∀ y ∈ insI x L, p y
  | [], _ => by intro y hy; simp [insI] at hy; rw [hy]; exact hx0
  | z :: L, h => by
    intro y hy
    have hL : ∀ y ∈ L, p y := fun y hy => h y (List.mem_cons_of_mem _ hy)
    unfold insI at hy
    split at hy
    · rcases List.mem_cons.1 hy with rfl | hy
      · exact hx0
      · exact h y hy
    · split at hy
      · rcases List.mem_cons.1 hy with rfl | hy
        · exact hx z (h z (List.mem_cons_self ..))
        · exact hL y hy
      · rcases List.mem_cons.1 hy with rfl | hy
        · exact h y (List.mem_cons_self ..)
        · exact insI_all hx hx0 hL y hy
/-- What is known of these dimensions so far. -/
def lookI (D : List ByteArray) (P : List It) : Option It := P.find? fun y => decide (y.D = D)
def aggI (D : List ByteArray) (P : List It) : Ag := match lookI D P with | some y => y.a | none => agZ
def v9 (y : It) : Value := .agg (c9 y).toArray
def kvI (y : It) : List UInt8 × Value := (jn y.D, v9 y)
def vlI (P : List It) : VL := P.map kvI
theorem vlook_I (D : List ByteArray) : ∀ P : List It, vLook (jn D) (vlI P) = (lookI D P).map v9
  | [] => rfl
  | y :: P => by
    have ih := vlook_I D P
    unfold vLook vlI lookI at ih ⊢
    rw [List.map_cons, List.find?_cons, List.find?_cons]
    by_cases h : y.D = D
    · have e1 : ((kvI y).1 == jn D) = true := by show (jn y.D == jn D) = true; rw [h]; simp
      rw [e1, decide_eq_true h]; rfl
    · have e1 : ((kvI y).1 == jn D) = false := by show (jn y.D == jn D) = false; simp; exact fun e => h (jn_inj e)
      rw [e1, decide_eq_false h]; exact ih
theorem vput_I {x : It} : ∀ {P : List It}, (P.map itR).Pairwise (fun a b => lj a.D b.D) → vPut (jn x.D, v9 { x with a := mrg (aggI x.D P) x.a }) (vlI P) = vlI (insI x P)
  | [], _ => by
    have e : mrg agZ x.a = x.a := by unfold mrg; rw [if_pos (show agZ.c = 0 from rfl)]
    show vPut (jn x.D, v9 { x with a := mrg agZ x.a }) [] = _
    rw [e]; rfl
  | z :: P, h => by
    have h' := List.pairwise_cons.1 (show ((itR z) :: P.map itR).Pairwise _ from h)
    have hgt : ∀ y ∈ P, lj z.D y.D := fun y hy => h'.1 (itR y) (List.mem_map_of_mem hy)
    have ih := vput_I (x := x) (P := P) h'.2
    have hne : ∀ {y : It}, y.D ≠ x.D → ((kvI y).1 == jn x.D) = false := fun {y} e => by
      show (jn y.D == jn x.D) = false; simp; exact fun e2 => e (jn_inj e2)
    unfold insI
    by_cases h1 : lj x.D z.D
    · rw [if_pos h1]
      have hall : ∀ y ∈ z :: P, y.D ≠ x.D := fun y hy e => by
        rcases List.mem_cons.1 hy with rfl | hy
        · rw [e] at h1; exact lj_irr _ h1
        · have := lj_tr h1 (hgt y hy); rw [e] at this; exact lj_irr _ this
      have hl : aggI x.D (z :: P) = agZ := by
        unfold aggI lookI
        rw [List.find?_eq_none.2 fun y hy => by simpa using hall y hy]
      rw [hl]
      have e : mrg agZ x.a = x.a := by unfold mrg; rw [if_pos (show agZ.c = 0 from rfl)]
      rw [e]
      unfold vPut
      rw [vDel_none (fun p hp => by
        obtain ⟨y, hy, rfl⟩ := List.mem_map.1 hp
        exact fun e2 => hall y hy (jn_inj e2))]
      show vIns _ (kvI z :: vlI P) = _
      unfold vIns
      have : Go.bytesBefore (jn x.D) (kvI z).1 = true := by show Go.bytesBefore (jn x.D) (jn z.D) = true; rw [bb_lj, decide_eq_true h1]
      rw [if_pos this]; rfl
    · rw [if_neg h1]
      have hnb : ¬ Go.bytesBefore (jn x.D) (kvI z).1 = true := by show ¬ Go.bytesBefore (jn x.D) (jn z.D) = true; rw [bb_lj]; simpa using h1
      by_cases h2 : x.D = z.D
      · rw [if_pos h2]
        have hl : aggI x.D (z :: P) = z.a := by unfold aggI lookI; rw [List.find?_cons, decide_eq_true h2.symm]
        rw [hl]
        unfold vPut vDel
        show vIns _ ((kvI z :: vlI P).filter _) = _
        have e1 : ((kvI z).1 == jn x.D) = true := by show (jn z.D == jn x.D) = true; rw [h2]; simp
        rw [List.filter_cons, show (!(kvI z).1 == jn x.D) = false by rw [e1]; rfl, if_neg (by simp)]
        have e2 : (vlI P).filter (fun p => !(p.1 == jn x.D)) = vlI P := vDel_none (fun p hp => by
          obtain ⟨y, hy, rfl⟩ := List.mem_map.1 hp
          intro e2
          have := hgt y hy
          rw [jn_inj e2, h2] at this; exact lj_irr _ this)
        rw [e2]
        cases P with
        | nil => rfl
        | cons y P =>
          show vIns _ (kvI y :: vlI P) = _
          unfold vIns
          have : Go.bytesBefore (jn x.D) (kvI y).1 = true := by
            show Go.bytesBefore (jn x.D) (jn y.D) = true
            rw [bb_lj, decide_eq_true (by rw [h2]; exact hgt y (List.mem_cons_self ..))]
          rw [if_pos this]; rfl
      · rw [if_neg h2]
        have hl : aggI x.D (z :: P) = aggI x.D P := by unfold aggI lookI; rw [List.find?_cons, decide_eq_false (fun e => h2 e.symm)]
        rw [hl]
        unfold vPut vDel at ih ⊢
        show vIns _ ((kvI z :: vlI P).filter _) = _
        rw [List.filter_cons, show (!(kvI z).1 == jn x.D) = true by rw [hne (fun e => h2 e.symm)]; rfl, if_pos rfl]
        show vIns _ (kvI z :: (vlI P).filter _) = kvI z :: vlI (insI x P)
        unfold vIns
        rw [if_neg hnb, ih]
end Go.Proofs.YtoenijflijfogaaGreat
