/- A file system: List; one map into another. -/
import Derived.Test.YtijablmejjepaaaSFL
namespace Go.Proofs.Ytijablmejjepaaa
open Go.RowKit Go.Maps Go.Sort

theorem bb_le : ∀ (a b : List UInt8), bytesBefore a b = true → a ≤ b
  | [], b, _ => by simp
  | _ :: _, [], h => by simp [bytesBefore] at h
  | x :: a, y :: b, h => by
    simp only [bytesBefore, Bool.or_eq_true, decide_eq_true_eq, Bool.and_eq_true, beq_iff_eq] at h
    rcases h with h | ⟨rfl, h⟩
    · exact List.le_of_lt (List.cons_lt_cons_iff.2 (.inl h))
    · exact List.cons_le_cons_iff.2 (.inr ⟨rfl, bb_le a b h⟩)
def sv (s : List UInt8) : Value := .string ⟨s.toArray⟩
theorem strKeys_sf (bl : Nat → Nat) (l : List (List UInt8 × Nat)) : strKeys (sfD bl l) = l.map (·.1) := by
  show (l.map (sfE bl)).map (fun p => strOf p.1) = _
  rw [List.map_map]
  rfl
theorem list_any {w : World} {O : Nat → Prop} {g m1 m2 : Nat} {pv : Value} {bl : Nat → Nat} {vs : Nat → Value} {s : SfS} (h : FsAt w O g m1 m2 pv bl vs s) (hw : SfWf s) :
    Calls Try.prog 29 #[.pointer (some ⟨g, 0, none⟩)] w fun e w' => ∃ v, e = .returned v ∧ w'.ownsRow w.heap.size 9 1 v s.dir.length (s.dir.map fun p => sv p.1) ∧ Below w.heap.size w w' := by
  have hdl := hw.dl
  have hsz := sfD_size bl s.dir
  refine (list_map g m1 s.dir.length s.room (sfD bl s.dir) ptrE w h.h1 (by rw [hsz]; simp only [maxLen]; omega) (by rw [hsz]; omega) h.c0 hw.r1 h.c1).mono ?_
  rintro e w' ⟨v, ss, rfl, hS, hrow, hb⟩
  rw [strKeys_sf] at hS
  have hl : ss.length = s.dir.length := by rw [hS.length_eq, List.length_map]
  have hms : ss.mergeSort (fun x y => decide (x ≤ y)) = s.dir.map (·.1) := by
    have := mergeSort_of_perm hS
    unfold leB at this
    rw [this]
    refine List.mergeSort_of_pairwise ?_
    rw [List.pairwise_map]
    exact h.h1.apart.imp fun {a b} q => by simpa using bb_le _ _ q
  rw [hms, List.map_map, hl] at hrow
  exact ⟨v, rfl, hrow, hb⟩
theorem copyM_any {w : World} {m1 m2 : Nat} {bl : Nat → Nat} {l : List (List UInt8 × Nat)} (h1 : SfMap w m1 bl []) (h2 : SfMap w m2 bl l) (hne : m1 ≠ m2) (hl : l.length < maxLen) :
    Calls Try.prog 39 #[.map (some m1), .map (some m2)] w fun e w' => e = .returned (.tuple #[]) ∧ SfMap w' m1 bl l ∧ Onl (fun k => k = m1) w w' := by
  have hlt := World.ownsMap.lt h1
  have HC : Hid (Canon (sfD bl l)) := World.ownsMap.canon h2 keyedS
  have H1 : Hid (SfMap w m1 bl []) := h1
  clear h1
  go_enter Try.func39, Try.ntmps39
  go_wp2_with (at_range; refine wpList_range_own _ rfl _ 40 rfl 9 66 keyedS Try.underlying40 ptrE m2 l.length (sfD bl l) rfl h2 ?_; intro w0 hrg0 hg0 hs0)
  go_frame
  have HR0 : Hid (w0.ranges Try.prog 9 ptrE m2 w.heap.size l.length (sfD bl l) (Maps.has (sfD bl l)) (Maps.size (sfD bl l))) := hrg0
  have HO0 : Hid (Onl (fun k => k = m1) w w0) := Onl.grown hg0 (fun k hk => by cases hk)
  have H10 : Hid (SfMap w0 m1 bl []) := H1.out.keep (hg0.block m1 hlt (by simp))
  clear hrg0 hg0 hs0 h2 H1
  go_loopw [4] (fun _ wr => ∃ left cnt l1, Hid (wr.ranges Try.prog 9 ptrE m2 w.heap.size l.length (sfD bl l) left cnt) ∧ Hid (SfMap wr m1 bl l1) ∧ Hid (Agree (sfD bl l1) (sfD bl l) left) ∧ Hid (l1.length + cnt ≤ l.length) ∧ Hid (Onl (fun k => k = m1) w wr)) (fun _ wr => wr.rangeLeft m2 w.heap.size)
  case atStart => exact ⟨_, _, [], HR0, H10, agree_start _, by show [].length + Maps.size (sfD bl l) ≤ _; rw [sfD_size]; simp, HO0⟩
  case round =>
    obtain ⟨left, cnt, l1, HR, H1, HA, HN, HO⟩ := hrel
    go_wp2_with (at_next; refine wpList_next_sf rfl _ rfl m2 w.heap.size l.length bl l left cnt rfl HR.out ?_ ?_)
    · intro hl0
      have HE : Hid (sfD bl l1 = sfD bl l) := agree_end HA.out hl0 (World.ownsMap.canon H1.out keyedS) HC.out
      clear hl0 HR HA
      go_wp2_with fail
      refine bodyPost_end (results_none rfl _ _ _) rfl ?_
      exact ⟨rfl, .of H1.out HE.out, HO.out⟩
    · intro nm i w1 cnt1 hnl hlook hleft hrg1 hlt1 hg1 hs1 hen
      have hm1 : SfMap w1 m1 bl l1 := H1.out.keep (hg1.block m1 (by have := HO.out.size; omega) (by simp; omega))
      have hn1 : l1.length < maxLen := by have := HN.out; omega
      have k2 := keyS nm hnl
      have HR1 : Hid (w1.ranges Try.prog 9 ptrE m2 w.heap.size l.length (sfD bl l) (fun z => left z && !z.sameKey (.string nm)) cnt1) := hrg1
      have HO1 : Hid (Onl (fun k => k = m1) w w1) := ⟨hg1.os.trans HO.out.os, hg1.tape.trans HO.out.tape, hg1.output.trans HO.out.output, Nat.le_trans HO.out.size hg1.size, fun k hk ho => (hg1.block k (Nat.lt_of_lt_of_le hk HO.out.size) (by simp; omega)).trans (HO.out.block k hk ho)⟩
      have HLK : Hid (sfLook nm l = some i) := hlook
      have HLT : Hid (cnt1 < cnt) := hlt1
      clear hrg1 hlt1 hg1 hs1 hlook hleft hnl
      go_wp2_with (at_mapUpdate; refine wpList_mapUpdate_in _ rfl _ _ _ 40 rfl 9 66 keyedS Try.underlying40 ptrE m1 l1.length _ rfl hm1 hn1 _ _ _ rfl rfl k2 (.lit (.int .i64 (bl i : Int))) [] rfl ?_; intro w2 hown2 hturn2)
      go_frame
      have H2 : Hid (SfMap w2 m1 bl (sfPut (nm, i) l1)) := .of hown2 (sfD_put bl (nm, i) l1)
      have HR2 : Hid (w2.ranges Try.prog 9 ptrE m2 w.heap.size l.length (sfD bl l) (fun z => left z && !z.sameKey (.string nm)) cnt1) := HR1.out.kept hturn2.grown (by simp; omega) (by simp; omega)
      have HO2 : Hid (Onl (fun k => k = m1) w w2) := HO1.out.then (turned_only hturn2)
      have HA2 : Hid (Agree (sfD bl (sfPut (nm, i) l1)) (sfD bl l) (fun z => left z && !z.sameKey (.string nm))) := by
        have := agree_step HA.out (World.ownsMap.isMap H1.out) (kl := .string nm) (d := .lit (.int .i64 (bl i : Int))) trivial (fun zd => by rw [sfD_at, HLK.out])
        have e := sfD_put bl (nm, i) l1
        rw [← e]
        exact this
      have HN2 : Hid ((sfPut (nm, i) l1).length + cnt1 ≤ l.length) := by
        have h1 := sfPut_le (nm, i) l1
        have h2 := HN.out
        have h3 := HLT.out
        show _ ≤ _
        omega
      clear hown2 hturn2
      go_roundw
      case rel => exact ⟨_, _, _, HR2, H2, HA2, HN2, HO2⟩
      case measure => rw [HR2.out.left_eq, HR.out.left_eq]; exact HLT.out
end Go.Proofs.Ytijablmejjepaaa
