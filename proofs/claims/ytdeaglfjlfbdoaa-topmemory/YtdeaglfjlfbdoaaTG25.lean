/- B10 S18 SN1, joined. -/
import Derived.Test.YtdeaglfjlfbdoaaTG10
import Derived.Test.YtdeaglfjlfbdoaaTG11
import Derived.Test.YtdeaglfjlfbdoaaTG24
/- Many keys, and two filters side by side. -/
namespace Go.Proofs.Ytdeaglfjlfbdoaa
open Go.RowKit

/-- Keys are added, one behind the other. -/
def adK (h : Nat) (D : List UInt8) (L : List (List UInt8)) : List UInt8 := L.foldl (fun E k => adF E (plc k (8 * D.length) h)) D
theorem fold_len (n h : Nat) (L : List (List UInt8)) : ∀ D : List UInt8, (L.foldl (fun E k => adF E (plc k n h)) D).length = D.length := by
  induction L with
  | nil => intro D; rfl
  | cons l L ih => intro D; rw [List.foldl_cons, ih, adF_len]
theorem adK_len (h : Nat) (D : List UInt8) (L : List (List UInt8)) : (adK h D L).length = D.length := fold_len _ _ _ _
theorem adK_snoc (h : Nat) (D : List UInt8) (L : List (List UInt8)) (l : List UInt8) : adK h D (L ++ [l]) = adF (adK h D L) (plc l (8 * (adK h D L).length) h) := by
  rw [adK_len]; unfold adK; rw [List.foldl_append]; rfl
theorem gb_fold (n h : Nat) (L : List (List UInt8)) : ∀ (D : List UInt8) (q : Nat), n = 8 * D.length → 0 < D.length → gb (L.foldl (fun E k => adF E (plc k n h)) D) q = (gb D q || L.any fun k => decide (q ∈ plc k n h)) := by
  induction L with
  | nil => intro D q _ _; simp
  | cons l L ih =>
    intro D q hn hd
    rw [List.foldl_cons, ih _ _ (by rw [adF_len]; exact hn) (by rw [adF_len]; exact hd), gb_adF _ _ _ (by rw [hn]; exact plc_in hd), List.any_cons, Bool.or_assoc]
theorem gb_adK (h : Nat) (D : List UInt8) (L : List (List UInt8)) (q : Nat) (hd : 0 < D.length) : gb (adK h D L) q = (gb D q || L.any fun k => decide (q ∈ plc k (8 * D.length) h)) := gb_fold _ _ _ _ _ rfl hd
theorem my_adK {h : Nat} {D : List UInt8} {L : List (List UInt8)} {l : List UInt8} (hd : 0 < D.length) (hl : l ∈ L) : myF (adK h D L) (plc l (8 * D.length) h) = true := by
  unfold myF
  rw [List.all_eq_true]
  intro q hq
  rw [gb_adK h D L q hd, List.any_eq_true.2 ⟨l, hl, by simpa using hq⟩, Bool.or_true]
theorem adK_same {h : Nat} {D : List UInt8} {L M : List (List UInt8)} (hd : 0 < D.length) (hLM : ∀ l, l ∈ L ↔ l ∈ M) : adK h D L = adK h D M := by
  apply gb_ext
  · rw [adK_len, adK_len]
  · intro q _
    rw [gb_adK h D L q hd, gb_adK h D M q hd]
    congr 1
    rw [Bool.eq_iff_iff, List.any_eq_true, List.any_eq_true]
    constructor
    · rintro ⟨l, hl, e⟩; exact ⟨l, (hLM l).1 hl, e⟩
    · rintro ⟨l, hl, e⟩; exact ⟨l, (hLM l).2 hl, e⟩
/-- A filter in memory, made since lo, and ahead of hi. -/
def FilIn (w : World) (lo hi : Nat) (v : Value) (h : Nat) (D : List UInt8) : Prop :=
  ∃ B g cap, v = .pointer (some ⟨B, 0, none⟩) ∧ lo ≤ B ∧ w.heap[B]? = some (.cells #[.int .i64 (h : Int), .slice (some ⟨g, 0, none⟩) D.length cap] 67) ∧ Own w lo (.slice (some ⟨g, 0, none⟩) D.length cap) D ∧ B ≠ g ∧ (1 ≤ h ∧ h ≤ 8 ∧ 0 < D.length ∧ D.length ≤ 8192) ∧ B < hi ∧ g < hi
theorem FilIn.fil {w : World} {lo hi : Nat} {v : Value} {h : Nat} {D : List UInt8} (hf : FilIn w lo hi v h D) : Fil w lo v h D := by
  obtain ⟨B, g, cap, h1, h2, h3, h4, h5, ⟨h6, h7, h8, h9⟩, _, _⟩ := hf
  exact ⟨B, g, cap, h1, h2, h3, h4, h5, h6, h7, h8, h9⟩
theorem Fil.in {w : World} {lo : Nat} {v : Value} {h : Nat} {D : List UInt8} (hf : Fil w lo v h D) : FilIn w lo w.heap.size v h D := by
  obtain ⟨B, g, cap, h1, h2, h3, h4, h5, h6, h7, h8, h9⟩ := hf
  exact ⟨B, g, cap, h1, h2, h3, h4, h5, ⟨h6, h7, h8, h9⟩, (Array.getElem?_eq_some_iff.1 h3).1, (World.ownsRow.lt h4 g rfl).2⟩
theorem FilIn.below {w w' : World} {lo hi : Nat} {v : Value} {h : Nat} {D : List UInt8} (hf : FilIn w lo hi v h D) (hb : Below hi w w') : FilIn w' lo hi v h D := by
  obtain ⟨B, g, cap, h1, h2, h3, h4, h5, h6, h7, h8⟩ := hf
  refine ⟨B, g, cap, h1, h2, (hb.block B h7).trans h3, ?_, h5, h6, h7, h8⟩
  obtain ⟨q1, q2⟩ := h4
  refine ⟨q1, ?_⟩
  rcases q2 with q2 | ⟨g', cap', cur, hv, hg, hw, r⟩
  · exact .inl q2
  · have : g = g' := by simp at hv; exact hv.1
    subst this
    exact .inr ⟨g, cap', cur, hv, hg, (hb.block g h8).trans hw, r⟩
theorem Fil.kx {A W : World} {base g : Nat} {v : Value} {h : Nat} {D : List UInt8} (hf : Fil A base v h D) (hk : Kx g A W) (hg : g < base) : Fil W base v h D := by
  obtain ⟨B, g', cap, h1, h2, h3, h4, h5⟩ := hf
  refine ⟨B, g', cap, h1, h2, hk _ _ _ _ (by omega) h3, ?_, h5⟩
  obtain ⟨q1, q2⟩ := h4
  refine ⟨q1, ?_⟩
  rcases q2 with q2 | ⟨g2, cap', cur, hv, hg2, hw, r⟩
  · exact .inl q2
  · exact .inr ⟨g2, cap', cur, hv, hg2, hk _ _ _ _ (by omega) hw, r⟩
theorem add_two (v kv : Value) (h : Nat) (D key : List UInt8) (w : World) (lo hi : Nat) (hlo : lo ≤ w.heap.size) (hF : FilIn w lo hi v h D) (hR : Reads w kv key) :
    Calls Try.prog 11 #[v, kv] w fun e W' => e = .returned (.int .i64 0) ∧ FilIn W' lo hi v h (adF D (plc key (8 * D.length) h)) ∧ (∀ vx hx Dx, Fil w hi vx hx Dx → Fil W' hi vx hx Dx) ∧ Below lo w W' := by
  refine (add_anyB v kv h D key w lo hlo hF.fil hR).mono ?_
  rintro e W' ⟨rfl, hf, hb, hk⟩
  obtain ⟨B, g, cap, rfl, h2, h3, h4, h5, h6, h7, h8⟩ := hF
  have hkx := hk B g _ cap _ rfl h3
  refine ⟨rfl, ?_, fun vx hx Dx hfx => hfx.kx hkx h8, hb⟩
  obtain ⟨B', g', cap', e1, f2, f3, f4, f5, f6, f7, f8, f9⟩ := hf
  cases e1
  have f10 := hkx _ _ _ _ h5 h3
  rw [f3] at f10
  simp at f10
  obtain ⟨rfl, _, rfl⟩ := f10
  exact ⟨B, g', cap', rfl, f2, f3, f4, f5, ⟨f6, f7, f8, f9⟩, h7, h8⟩
end Go.Proofs.Ytdeaglfjlfbdoaa

/- The contract of the reference's Same, where both lists hold the same. -/
namespace Go.Proofs.Ytdeaglfjlfbdoaa
open Go.RowKit

/-- A slice reads these entries (nothing is told of their counts). -/
def ERd (w : World) (v : Value) (L : List En) : Prop :=
  ∃ a cap, v = .slice a L.length cap ∧ L.length ≤ cap ∧ cap ≤ maxLen ∧ (L = [] ∨ ∃ b off, a = some ⟨b, off, none⟩ ∧ b < w.heap.size ∧ ∀ j (hj : j < L.length), ∃ kv, (∀ i (hi : i < 7), w.cell? ⟨b, off + j * 7 + i, none⟩ = some ((c7 ⟨kv, L[j].1, L[j].2⟩)[i]'hi)) ∧ Reads w kv L[j].1)
theorem ERd.below {w w' : World} {v : Value} {L : List En} (h : ERd w v L) (hb : Below w.heap.size w w') : ERd w' v L := by
  obtain ⟨a, cap, rfl, h1, h2, h3⟩ := h
  refine ⟨a, cap, rfl, h1, h2, ?_⟩
  rcases h3 with h3 | ⟨b, off, h4, h5, h6⟩
  · exact .inl h3
  · refine .inr ⟨b, off, h4, Nat.lt_of_lt_of_le h5 hb.size, fun j hj => ?_⟩
    obtain ⟨kv, g1, g2⟩ := h6 j hj
    exact ⟨kv, fun i hi => (hb.cell (p := ⟨b, off + j * 7 + i, none⟩) h5).trans (g1 i hi), g2.below hb⟩
theorem EReads.rd {w : World} {v : Value} {L : List En} (h : EReads w v L) : ERd w v L := by
  obtain ⟨a, cap, rfl, h1, h2, h3⟩ := h
  refine ⟨a, cap, rfl, h1, h2, ?_⟩
  rcases h3 with h3 | ⟨b, off, h4, h5, h6⟩
  · exact .inl h3
  · refine .inr ⟨b, off, h4, h5, fun j hj => ?_⟩
    obtain ⟨kv, g1, g2, g3⟩ := h6 j hj
    exact ⟨kv, fun i hi => by rw [show off + j * 7 + i = off + (7 * j + i) by omega]; exact g1 i hi, g2⟩
theorem EOwn.rd {w : World} {base : Nat} {v : Value} {xs : List Ev} (h : EOwn w base v xs) : ERd w v (xs.map evE) := by
  obtain ⟨a, cap, rfl, h1, h2, h3⟩ := h.at
  refine ⟨a, cap, by simp, by simpa using h1, h2, ?_⟩
  rcases Nat.eq_zero_or_pos xs.length with h0 | h0
  · exact .inl (by rw [List.length_eq_zero_iff.1 h0]; rfl)
  · obtain ⟨g, rfl, _, h5, h6⟩ := h3 h0
    refine .inr ⟨g, 0, rfl, h5, fun j hj => ?_⟩
    simp at hj
    have e : (xs.map evE)[j]'(by simpa using hj) = evE xs[j] := by simp
    rw [e]
    refine ⟨xs[j].kv, fun i hi => ?_, (h.2 _ (List.getElem_mem hj)).reads⟩
    rw [show 0 + j * 7 + i = 7 * j + i by omega]
    exact (h6 j hj i hi).1
end Go.Proofs.Ytdeaglfjlfbdoaa

/- A list that is nil; the reference's Right; its Put into a list without entries. -/
namespace Go.Proofs.Ytdeaglfjlfbdoaa
open Go.RowKit

theorem put_nil (kv : Value) (a : Ag) (h : Int) (w : World) : Calls Try.prog 9 #[.pointer none, env kv a, .int .i64 h] w fun e w' => e = .returned (.int .i64 6) ∧ Below w.heap.size w w' := by
  have HM : Hid _ := mayPut_nil kv a h (w.alloc (.cells #[kv, .int .u64 a.c, .bool a.o, .int .i64 (hi a.s), .int .u64 (lo a.s), .int .i64 a.mn, .int .i64 a.mx] 47))
  unfold env at HM ⊢
  go_enter Try.func9, Try.ntmps9
  go_wp2_with fail
  refine Calls.mono HM.out ?_
  rintro e w1 ⟨rfl, hb1⟩
  have HB1 : Hid (Below w.heap.size w w1) := ((Below.refl _ _).alloc (Nat.le_refl _) _).trans (hb1.mono (by simp))
  clear hb1
  go_wp2_with fail
  go_ret
  exact ⟨rfl, HB1.out⟩
theorem len_nil (w : World) : Calls Try.prog 30 #[.pointer none] w fun e w' => e = .returned (.int .i64 0) ∧ w' = w := by
  go_enter Try.func30, Try.ntmps30
  go_wp2_with fail
  go_ret
  exact ⟨rfl, rfl⟩
theorem seek_nil (kv : Value) (m : Int) (w : World) : Calls Try.prog 29 #[.pointer none, kv, .int .i64 m] w fun e w' => e = .returned (.slice none 0 0) ∧ Below w.heap.size w w' := by
  go_enter Try.func29, Try.ntmps29
  go_wp2_with fail
  go_ret
  exact ⟨rfl, (Below.refl _ _).alloc (Nat.le_refl _) _⟩
theorem all_nil (w : World) : Calls Try.prog 12 #[.pointer none] w fun e w' => e = .returned (.slice none 0 0) ∧ Below w.heap.size w w' := by
  go_enter Try.func12, Try.ntmps12
  go_wp2_with fail
  refine (len_nil _).mono ?_
  rintro e w1 ⟨rfl, rfl⟩
  go_wp2_with fail
  refine (seek_nil _ _ _).mono ?_
  rintro e w2 ⟨rfl, hb2⟩
  have HB2 : Hid _ := hb2
  clear hb2
  go_wp2_with fail
  go_ret
  exact ⟨rfl, HB2.out⟩
end Go.Proofs.Ytdeaglfjlfbdoaa
