/- The contracts of without and After. -/
import Derived.Test.YteagbcijpfpjhaaPK14
namespace Go.Proofs.Yteagbcijpfpjhaa
open Go.RowKit Go.Shelf

/-- Runs without those of some files, and what is left of a count; none: a file is none of theirs, or named twice. -/
def outF (L : List Rn) (c : Int) : List Int → Option (List Rn × Int)
  | [] => some (L, c)
  | f :: fs => match L.findIdx? (fun r => decide (r.f = f)) with
    | none => none
    | some k => outF (L.eraseIdx k) (c - min c ((L[k]?.map Rn.c).getD 0)) fs
theorem outF_some {L : List Rn} {c f : Int} {fs : List Int} {k : Nat} (hk : k < L.length) (h1 : L[k].f = f) (h2 : ∀ j (hj : j < L.length), j < k → L[j].f ≠ f) : outF L c (f :: fs) = outF (L.eraseIdx k) (c - min c L[k].c) fs := by
  have e : L.findIdx? (fun r => decide (r.f = f)) = some k := by
    rw [List.findIdx?_eq_some_iff_getElem]
    exact ⟨hk, by simpa using h1, fun j hj => by simpa using h2 j (by omega) hj⟩
  rw [outF, e]
  simp [hk]
theorem outF_none {L : List Rn} {c f : Int} {fs : List Int} (h : ∀ r ∈ L, r.f ≠ f) : outF L c (f :: fs) = none := by
  have e : L.findIdx? (fun r => decide (r.f = f)) = none := by
    rw [List.findIdx?_eq_none_iff]
    intro r hr
    simpa using h r hr
  rw [outF, e]
/-- What without answers. -/
def WoPost (x : Option (List Rn × Int)) (w : World) (e : Ending) (w' : World) : Prop := Below w.heap.size w w' ∧ match x with
  | none => e = .returned (.tuple #[.slice none 0 0, .bool false])
  | some (M, c) => ∃ v', e = .returned (.tuple #[v', .bool (decide (c = 0))]) ∧ NOwn 48 w' w.heap.size v' M
set_option maxRecDepth 100000 in
set_option maxHeartbeats 2000000 in
theorem without_any (v fv : Value) (L : List Rn) (fs : List Int) (c : Int) (w : World) (hR : NReads w v L) (hF : Reads w fv fs) (h64 : L.length ≤ 64) (hp : ∀ r ∈ L, 1 ≤ r.c) (hc0 : 0 ≤ c) (hc1 : c ≤ 9223372036854775807) :
    Calls Try.prog 29 #[v, fv, .int .i64 c] w (WoPost (outF L c fs) w) := by
  have HR : Hid (NReads w v L) := hR
  have HF : Hid (Reads w fv fs) := hF
  have HP : Hid (∀ r ∈ L, 1 ≤ r.c) := hp
  obtain ⟨a, cap, rfl, hl1, hl2⟩ := hR.form
  obtain ⟨fa, fc, rfl, hfl⟩ := hF.form
  clear hR hF hp
  unfold maxLen at hl2 hfl
  obtain ⟨X, HX⟩ := hid_ex (outF L c fs)
  rw [← HX.out]
  go_enter Try.func29, Try.ntmps29
  go_wp2_with fail
  refine (clone_any _ L _ HR.out (by omega)).mono ?_
  rintro e w1 ⟨v1, rfl, hO1, hb1⟩
  have HO1 : Hid (NOwn 48 w1 w.heap.size v1 L) := hO1
  have HB1 : Hid (Below w.heap.size w w1) := hb1
  clear hO1 hb1
  go_wp2_with fail
  go_loopw [2, 8, 16] (fun cv lv i wr => ∃ (k : Nat) (M : List Rn) (d : Int), k ≤ fs.length ∧ i = .int .i64 (k : Int) ∧ cv = .int .i64 d ∧ 0 ≤ d ∧ d ≤ 9223372036854775807 ∧ M.length ≤ 64 ∧ Hid (NOwn 48 wr w.heap.size lv M) ∧ Hid (∀ r ∈ M, 1 ≤ r.c) ∧ Hid (X = outF M d (fs.drop k)) ∧ Hid (Below w.heap.size w wr)) (fun _ _ i _ => fs.length - (intOf i).toNat)
  case atStart => exact ⟨0, L, c, by omega, rfl, rfl, hc0, hc1, h64, HO1.out, HP.out, HX.out, HB1.out⟩
  case round =>
    clear HO1 HB1
    obtain ⟨k, M, d, hk, rfl, rfl, hd0, hd1, hM64, HO, HPM, HXM, HB⟩ := hrel
    obtain ⟨ma, mc, rfl, hml1, hml2⟩ := HO.out.reads.form
    unfold maxLen at hml2
    by_cases hlt : k < fs.length
    · obtain ⟨fb, fo, rfl, hfb, hcell⟩ := (HF.out.below HB.out).at k hlt
      obtain ⟨f, Hf⟩ := hid_ex fs[k]
      rw [← Hf.out] at hcell
      unfold ic at hcell
      have HXk : Hid (X = outF M d (f :: fs.drop (k + 1))) := by
        unfold Hid
        rw [HXM.out, Hf.out, List.drop_eq_getElem_cons hlt]
      go_wp2_with fail
      refine (place_any _ M f _ HO.out.reads).mono ?_
      rintro e w2 ⟨hb2, ⟨j, hj, rfl, hj1, hj2⟩ | ⟨rfl, hn⟩⟩
      · have HB2 : Hid (Below w.heap.size w w2) := HB.out.trans (hb2.mono HB.out.size)
        have HO2 : Hid (NOwn 48 w2 w.heap.size (.slice ma M.length mc) M) := HO.out.below hb2
        obtain ⟨mb, mo, rfl, hmb⟩ := HO2.out.reads.ptr (by omega)
        obtain ⟨r, Hr⟩ := hid_ex M[j]
        obtain ⟨c0, c1, c2, c3⟩ := HO2.out.reads.four hj r Hr.out
        have hrc : 1 ≤ r.c := by rw [Hr.out]; exact HPM.out _ (List.getElem_mem hj)
        have hrk : r.c ≤ 9223372036854775807 := by rw [Hr.out]; exact (HO2.out.2 _ (List.getElem_mem hj)).c2
        have HXn : Hid (X = outF (M.eraseIdx j) (d - min d r.c) (fs.drop (k + 1))) := by
          unfold Hid
          rw [HXk.out, outF_some hj hj1 hj2, ← Hr.out]
        have hbw : w.heap.size ≤ w2.heap.size := HB2.out.size
        obtain ⟨z, Hz⟩ := hid_ex (min d r.c)
        have hz : min d r.c = z := Hz.out.symm
        have hz0 : 0 ≤ z := by rw [Hz.out]; omega
        have hz1 : z ≤ d := by rw [Hz.out]; omega
        rw [hz] at HXn
        clear hb2 hj1 hj2 c0 c1 c3 hcell
        go_wp2_with fail
        refine (delete_any _ M j w.heap.size _ HO2.out hj (by omega) hbw).mono ?_
        rintro e w3 ⟨v3, rfl, hO3, hb3⟩
        have HO3 : Hid (NOwn 48 w3 w.heap.size v3 (M.eraseIdx j)) := hO3
        have HB3 : Hid (Below w.heap.size w w3) := HB2.out.trans hb3
        have HPn : Hid (∀ r ∈ M.eraseIdx j, 1 ≤ r.c) := fun r hr => HPM.out r (List.mem_of_mem_eraseIdx hr)
        have hln : (M.eraseIdx j).length ≤ 64 := Nat.le_trans (List.length_eraseIdx_le _ _) hM64
        clear hO3 hb3 c2 hbw
        go_wp2_with fail
        go_roundw
        case rel => exact ⟨k + 1, M.eraseIdx j, d - z, by omega, by go_num, rfl, by omega, by omega, hln, HO3.out, HPn.out, HXn.out, HB3.out⟩
        case measure => simp [intOf]; omega
      · have HB2 : Hid (Below w.heap.size w w2) := HB.out.trans (hb2.mono HB.out.size)
        have HXn : Hid (X = none) := by
          unfold Hid
          rw [HXk.out, outF_none hn]
        clear hb2 hn hcell
        go_wp2_with fail
        go_ret2
        rw [HXn.out]
        exact ⟨HB2.out, rfl⟩
    · have HXn : Hid (X = some (M, d)) := by
        unfold Hid
        rw [HXM.out, List.drop_of_length_le (by omega)]
        rfl
      go_wp2_with fail
      go_ret2
      rw [HXn.out]
      exact ⟨HB.out, _, rfl, HO.out⟩
/-- What After answers: the runs, or none. -/
def aftF (L : List Rn) (fs : List Int) (lv f c : Int) : Option (List Rn) :=
  if okB L = true ∧ 1 ≤ f ∧ 0 ≤ c ∧ (0 ≤ lv ∧ lv ≤ 3) then
    match outF L c fs with
    | none => none
    | some (M, d) => if d = 0 ∧ (∀ r ∈ M, r.f ≠ f) ∧ okB (if 0 < c then M ++ [⟨f, lv, c, false⟩] else M) = true then some (if 0 < c then M ++ [⟨f, lv, c, false⟩] else M) else none
  else none
def AfPost (x : Option (List Rn)) (w : World) (e : Ending) (w' : World) : Prop := Below w.heap.size w w' ∧ match x with
  | none => e = .returned (.tuple #[.slice none 0 0, .int .i64 1])
  | some M => ∃ v', e = .returned (.tuple #[v', .int .i64 0]) ∧ NOwn 48 w' w.heap.size v' M
end Go.Proofs.Yteagbcijpfpjhaa
