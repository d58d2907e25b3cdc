/- S14 S15 OB, joined. -/
import Derived.Test.YtdeaglfjlfbdoaaTG1
import Derived.Test.YtdeaglfjlfbdoaaTG9
import Derived.Lib.SmallJoins
import Derived.ProofKit
import Derived.OpenShut
/- The contracts of Seek, All and Get, over the entries. -/
namespace Go.Proofs.Ytdeaglfjlfbdoaa
open Go.RowKit

/-- The first entries from a key on. -/
def skF (E : List En) (key : Ks) (most : Int) : List En := (E.drop (plK (keysE E) key)).take most.toNat
theorem EOwn.below {A B : World} {base : Nat} {v : Value} {xs : List Ev} (h : EOwn A base v xs) (hb : Below A.heap.size A B) : EOwn B base v xs := h.kc (Kc.of_below hb (Nat.le_refl _))
theorem seek_any (L0 : Nat) (E : List En) (fr : Bool) (kv : Value) (key : Ks) (most : Int) (w : World) (base : Nat) (hS : SK w base L0 E fr) (hR : Reads w kv key) :
    Calls Try.prog 29 #[.pointer (some ⟨L0, 0, none⟩), kv, .int .i64 most] w fun e W' => ∃ v xs, e = .returned v ∧ EOwn W' w.heap.size v xs ∧ xs.map evE = skF E key most ∧ Below w.heap.size w W' := by
  by_cases hm : 1 ≤ most
  · obtain ⟨N, h1, rfl⟩ := hS
    refine (callsIn_wide.1 (seek_in 5 (by decide) L0 N _ fr kv key most hm w base h1 hR)).mono ?_
    rintro e W' ⟨v, xs, rfl, h2, h3, h4⟩
    refine ⟨v, xs, rfl, h2, ?_, h4⟩
    rw [h3]
    unfold skF
    rw [keys_ents]
    unfold ents
    rw [List.map_drop]
  · have hm1 : most < 1 := by omega
    have HSK : Hid (skF E key most = []) := by unfold Hid skF; rw [show most.toNat = 0 by omega, List.take_zero]
    obtain ⟨ak, ck, rfl, _⟩ := hR.form
    have HB : Hid (Below w.heap.size w (w.alloc (.cells #[.int .i64 most] 3))) := (Below.refl _ _).alloc (Nat.le_refl _) _
    clear hS hR
    go_enter Try.func29, Try.ntmps29
    go_wp2_with fail
    go_ret
    first
      | exact ⟨_, rfl, [], ⟨World.ownsRow_nil _ _ _ _, fun _ h => (by cases h)⟩, by rw [HSK.out]; rfl, HB.out⟩
      | exact ⟨_, [], rfl, ⟨World.ownsRow_nil _ _ _ _, fun _ h => (by cases h)⟩, by rw [HSK.out]; rfl, HB.out⟩
theorem plK_nil (N : List Ks) : plK N [] = 0 := by
  unfold plK
  cases N with
  | nil => rfl
  | cons x N =>
    rw [List.takeWhile_cons_of_neg]
    · rfl
    · cases x <;> simp [ltK, Lib.compareBytes]
theorem all_any (L0 : Nat) (E : List En) (fr : Bool) (w : World) (base : Nat) (hS : SK w base L0 E fr) :
    Calls Try.prog 12 #[.pointer (some ⟨L0, 0, none⟩)] w fun e W' => ∃ v xs, e = .returned v ∧ EOwn W' w.heap.size v xs ∧ xs.map evE = E ∧ Below w.heap.size w W' := by
  have HS : Hid (SK w base L0 E fr) := hS
  have HE : Hid (skF E [] (E.length : Int) = E) := by unfold Hid skF; rw [plK_nil, List.drop_zero, Int.toNat_natCast, List.take_length]
  clear hS
  go_enter Try.func12, Try.ntmps12
  go_wp2_with fail
  refine (len_any L0 E fr _ base HS.out).mono ?_
  rintro e w1 ⟨rfl, hw1⟩
  subst w1
  go_wp2_with fail
  refine (seek_any L0 E fr _ [] (E.length : Int) _ base HS.out (.inl ⟨rfl, _, _, rfl, fun _ => rfl⟩)).mono ?_
  rintro e w2 ⟨v, xs, rfl, h2, h3, h4⟩
  rw [HE.out] at h3
  have H2 : Hid _ := h2
  have H3 : Hid _ := h3
  have H4 : Hid _ := h4
  clear h2 h3 h4
  go_wp2_with fail
  go_ret
  first
    | exact ⟨v, xs, rfl, H2.out, H3.out, H4.out⟩
    | exact ⟨v, rfl, xs, H2.out, H3.out, H4.out⟩
theorem c7_len (x : Ev) : (c7 x).length = 7 := rfl
theorem flat7 : ∀ (xs : List Ev) (j i : Nat) (hj : j < xs.length), i < 7 → (xs.flatMap c7)[7 * j + i]? = (c7 xs[j])[i]?
  | [], j, i, hj, _ => by simp at hj
  | x :: xs, 0, i, _, hi => by
    rw [List.flatMap_cons, List.getElem?_append_left (by rw [c7_len]; omega)]; simp
  | x :: xs, j + 1, i, hj, hi => by
    rw [List.flatMap_cons, List.getElem?_append_right (by rw [c7_len]; omega), c7_len, show 7 * (j + 1) + i - 7 = 7 * j + i by omega]
    exact flat7 xs j i (by simpa using hj) hi
/-- What a slice of entries holds. -/
theorem EOwn.at {w : World} {base : Nat} {v : Value} {xs : List Ev} (h : EOwn w base v xs) : ∃ a cap, v = .slice a xs.length cap ∧ xs.length ≤ cap ∧ cap ≤ maxLen ∧ (0 < xs.length → ∃ g, a = some ⟨g, 0, none⟩ ∧ base ≤ g ∧ g < w.heap.size ∧ ∀ j (hj : j < xs.length) (i : Nat) (hi : i < 7), w.cell? ⟨g, 7 * j + i, none⟩ = some ((c7 xs[j])[i]'hi) ∧ w.frozen? ⟨g, 7 * j + i, none⟩ = false) := by
  have hlt := World.ownsRow.lt h.1
  rcases h.1.2 with ⟨h1, h2⟩ | ⟨g, cap, cur, hv, hg, hw, hc, hm, _⟩
  · exact ⟨none, 0, by rw [h1, h2], by omega, by simp, fun h0 => by omega⟩
  · have hr := h.1
    rw [hv] at hr
    refine ⟨_, cap, hv, hc, hm, fun _ => ⟨g, rfl, hg, (hlt g (by rw [hv]; rfl)).2, fun j hj i hi => ⟨?_, World.ownsRow.frozenAt hr _⟩⟩⟩
    rw [World.ownsRow.cellAt hr _ (by omega), flat7 xs j i hj hi, List.getElem?_eq_getElem hi]
/-- What is known of a key. -/
def geE (E : List En) (key : Ks) : Option Ag := (E.find? fun x => decide (x.1 = key)).map Prod.snd
end Go.Proofs.Ytdeaglfjlfbdoaa

/- What the fixed calls of layer 8's 'alive' come to. -/
namespace Go.Proofs.Ytdeaglfjlfbdoaa
open Go.RowKit Go.Joins

def ag1 : Ag := ⟨1, false, 5, 5, 5⟩
theorem env1 (kv : Value) : env kv ag1 = .agg #[kv, .int .u64 1, .bool false, .int .i64 0, .int .u64 5, .int .i64 5, .int .i64 5] := rfl
theorem envZ : env (.slice none 0 0) agZ = .agg #[.slice none 0 0, .int .u64 0, .bool false, .int .i64 0, .int .u64 0, .int .i64 0, .int .i64 0] := rfl
theorem pE1 : putE [] [98] ag1 = [([98], ag1)] := rfl
theorem pE2 : putE [([98], ag1)] [97] ag1 = [([97], ag1), ([98], ag1)] := rfl
theorem pE3 : putE [([97], ag1), ([98], ag1)] [98] ag1 = [([97], ag1), ([98], mrg ag1 ag1)] := rfl
theorem mp1 (h : Int) (h1 : 1 ≤ h) (h2 : h ≤ 8) : mpF false h 1 ag1 = 0 := by
  unfold mpF
  rw [if_neg (by omega), if_neg (by simp), if_neg (by omega), if_neg (by simp [ag1, rightB])]
theorem mpZ (h : Int) (h1 : 1 ≤ h) (h2 : h ≤ 8) : mpF false h 0 agZ = 40 := by
  unfold mpF
  rw [if_neg (by omega), if_neg (by simp), if_pos (by omega)]
theorem reads_one (w1 : World) (x : UInt8) : Reads (w1.alloc (.cells #[.int .u8 (x.toNat : Int)] 5 (1, 2))) (.slice (some ⟨w1.heap.size, 0, none⟩) 1 1) [x] := by
  refine .inr ⟨w1.heap.size, 0, 1, rfl, by simp, by simp, by simp [maxLen], by simp, ?_⟩
  intro j hj
  have hj' : j < 1 := hj
  match j, hj' with
  | 0, _ => (rw [Nat.zero_add, cell_alloc_mark_at _ _ _ _ _ _ rfl]; rfl)
theorem two_of {α : Type} : ∀ {xs : List α}, xs.length = 2 → ∃ a b, xs = [a, b]
  | [a, b], _ => ⟨a, b, rfl⟩
end Go.Proofs.Ytdeaglfjlfbdoaa

/- Bytes, as an argument: what the slice reads. -/
namespace Go.Proofs.Ytdeaglfjlfbdoaa
open Go.ChangeShapes Go.WideShapes Go.ChangeAt Go.RowKit Go.Joins

theorem cell_block {w : World} {a : Addr} {v : Value} (h : w.cell? a = some v) : a.block < w.heap.size ∧ a.spot = none := by
  unfold World.cell? at h
  rcases Nat.lt_or_ge a.block w.heap.size with hb | hb
  · refine ⟨hb, ?_⟩
    split at h
    · split at h
      · cases h
      · rename_i hs; cases hsp : a.spot with
        | none => rfl
        | some s => rw [hsp] at hs; simp at hs
    · cases h
  · rw [Array.getElem?_eq_none hb] at h; cases h
set_option maxRecDepth 100000 in
theorem openB {H : Type} {enc : TypeId × Value → H} {W : World} {r : Reach} {b0 base : Nat} {spare : Nat → Bool} {held : Bool} {v : Value} {d : DataW H} {p : List MemPlace}
    (hv : Value.okWide Try.prog W r b0 23 v) (h : DataW.Trod enc Try.prog W base spare held 23 v d p) :
    ∃ l : List UInt8, Reads W v l := by
  obtain ⟨a, len, cap, rfl⟩ := okWide_slice Try.underlying23 hv
  obtain ⟨fuel, hf⟩ := h
  rcases open_ints Try.underlying23 Try.underlying5 (by kernel_rfl) hf with ⟨hcs, _⟩ | ⟨x, l, c, zs, hcs, _, hl, hm, hz, _, hcell, hwz⟩
  · simp [Value.cells] at hcs
    obtain ⟨rfl, rfl, rfl⟩ := hcs
    exact ⟨[], .inl ⟨rfl, _, _, rfl, fun _ => rfl⟩⟩
  · simp [Value.cells] at hcs
    obtain ⟨rfl, rfl, rfl⟩ := hcs
    have hzl : len ≤ zs.length := by rw [hz]; split <;> omega
    rcases Nat.eq_zero_or_pos len with h0 | h0
    · subst h0; exact ⟨[], .inl ⟨rfl, _, _, rfl, fun h => by cases h⟩⟩
    · refine ⟨(zs.take len).map fun z => UInt8.ofNat z.toNat, .inr ?_⟩
      have hlen : ((zs.take len).map fun z => UInt8.ofNat z.toNat).length = len := by simp; omega
      have c0 := hcell 0 (by omega)
      have e0 : x.add 0 = x := by simp [Addr.add]
      rw [e0] at c0
      obtain ⟨hb, hs⟩ := cell_block c0
      obtain ⟨b, off, spot⟩ := x
      simp only at hb hs
      subst hs
      refine ⟨b, off, cap, by rw [hlen], by omega, by omega, hm, hb, fun j hj => ?_⟩
      have hj' : j < len := by omega
      have cj := hcell j (by omega)
      have ea : (⟨b, off, none⟩ : Addr).add j = ⟨b, off + j, none⟩ := by simp [Addr.add]
      rw [ea] at cj
      rw [cj]
      have hzj : j < zs.length := by omega
      have hg : zs.getD j 0 = zs[j] := by simp [List.getD, hzj]
      have hw := bounds_u8 (hwz zs[j] (List.getElem_mem hzj))
      rw [hg]
      have e1 : ((zs.take len).map fun z => UInt8.ofNat z.toNat)[j] = UInt8.ofNat (zs[j]).toNat := by simp
      rw [e1]
      unfold bc
      have e2 : (UInt8.ofNat (zs[j]).toNat).toNat = (zs[j]).toNat := by simp [UInt8.toNat_ofNat']; omega
      rw [e2]
      congr 2
      omega
end Go.Proofs.Ytdeaglfjlfbdoaa
