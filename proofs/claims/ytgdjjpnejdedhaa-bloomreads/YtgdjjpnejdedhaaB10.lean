/- Many keys, and two filters side by side. -/
import Derived.Test.YtgdjjpnejdedhaaB7
namespace Go.Proofs.Ytgdjjpnejdedhaa
open Go.RowKit

/-- Keys are added, one behind the other. -/
def adK (h : Nat) (D : List UInt8) (L : List (List UInt8)) : List UInt8 := L.foldl (fun E k => adF E (plc k (8 * D.length) h)) D
theorem fold_len (n h : Nat) (L : List (List UInt8)) : ∀ D : List UInt8, (L.foldl (fun E k => adF E (plc k n h)) D).length = D.length := by
  induction L with
  | nil => intro D; rfl
  | cons l L ih => intro D; rw [List.foldl_cons, ih, adF_len]
theorem adK_len (h : Nat) (D : List UInt8) (L : List (List UInt8)) : (adK h D L).length = D.length := fold_len _ _ _ _
theorem adK_snoc (h : Nat) (D : List UInt8) (L : List (List UInt8)) (l : List UInt8) : adK h D (L ++ [l]) = adF (adK h D L) (plc l (8 * (adK h D L).length) h) := by
  rw [adK_len]; unfold adK; rw [List.foldl_append]; rfl
theorem gb_fold (n h : Nat) (L : List (List UInt8)) : ∀ (D : List UInt8) (q : Nat), n = 8 * D.length → 0 < D.length → gb (L.foldl (fun E k => adF E (plc k n h)) D) q = (gb D q || L.any fun k => decide (q ∈ plc k n h)) := by
  induction L with
  | nil => intro D q _ _; simp
  | cons l L ih =>
    intro D q hn hd
    rw [List.foldl_cons, ih _ _ (by rw [adF_len]; exact hn) (by rw [adF_len]; exact hd), gb_adF _ _ _ (by rw [hn]; exact plc_in hd), List.any_cons, Bool.or_assoc]
theorem gb_adK (h : Nat) (D : List UInt8) (L : List (List UInt8)) (q : Nat) (hd : 0 < D.length) : gb (adK h D L) q = (gb D q || L.any fun k => decide (q ∈ plc k (8 * D.length) h)) := gb_fold _ _ _ _ _ rfl hd
theorem my_adK {h : Nat} {D : List UInt8} {L : List (List UInt8)} {l : List UInt8} (hd : 0 < D.length) (hl : l ∈ L) : myF (adK h D L) (plc l (8 * D.length) h) = true := by
  unfold myF
  rw [List.all_eq_true]
  intro q hq
  rw [gb_adK h D L q hd, List.any_eq_true.2 ⟨l, hl, by simpa using hq⟩, Bool.or_true]
theorem adK_same {h : Nat} {D : List UInt8} {L M : List (List UInt8)} (hd : 0 < D.length) (hLM : ∀ l, l ∈ L ↔ l ∈ M) : adK h D L = adK h D M := by
  apply gb_ext
  · rw [adK_len, adK_len]
  · intro q _
    rw [gb_adK h D L q hd, gb_adK h D M q hd]
    congr 1
    rw [Bool.eq_iff_iff, List.any_eq_true, List.any_eq_true]
    constructor
    · rintro ⟨l, hl, e⟩; exact ⟨l, (hLM l).1 hl, e⟩
    · rintro ⟨l, hl, e⟩; exact ⟨l, (hLM l).2 hl, e⟩
/-- A filter in memory, made since lo, and ahead of hi. -/
def FilIn (w : World) (lo hi : Nat) (v : Value) (h : Nat) (D : List UInt8) : Prop :=
  ∃ B g cap, v = .pointer (some ⟨B, 0, none⟩) ∧ lo ≤ B ∧ w.heap[B]? = some (.cells #[.int .i64 (h : Int), .slice (some ⟨g, 0, none⟩) D.length cap] 46) ∧ Own w lo (.slice (some ⟨g, 0, none⟩) D.length cap) D ∧ B ≠ g ∧ (1 ≤ h ∧ h ≤ 8 ∧ 0 < D.length ∧ D.length ≤ 8192) ∧ B < hi ∧ g < hi
theorem FilIn.fil {w : World} {lo hi : Nat} {v : Value} {h : Nat} {D : List UInt8} (hf : FilIn w lo hi v h D) : Fil w lo v h D := by
  obtain ⟨B, g, cap, h1, h2, h3, h4, h5, ⟨h6, h7, h8, h9⟩, _, _⟩ := hf
  exact ⟨B, g, cap, h1, h2, h3, h4, h5, h6, h7, h8, h9⟩
theorem Fil.in {w : World} {lo : Nat} {v : Value} {h : Nat} {D : List UInt8} (hf : Fil w lo v h D) : FilIn w lo w.heap.size v h D := by
  obtain ⟨B, g, cap, h1, h2, h3, h4, h5, h6, h7, h8, h9⟩ := hf
  exact ⟨B, g, cap, h1, h2, h3, h4, h5, ⟨h6, h7, h8, h9⟩, (Array.getElem?_eq_some_iff.1 h3).1, (World.ownsRow.lt h4 g rfl).2⟩
theorem FilIn.below {w w' : World} {lo hi : Nat} {v : Value} {h : Nat} {D : List UInt8} (hf : FilIn w lo hi v h D) (hb : Below hi w w') : FilIn w' lo hi v h D := by
  obtain ⟨B, g, cap, h1, h2, h3, h4, h5, h6, h7, h8⟩ := hf
  refine ⟨B, g, cap, h1, h2, (hb.block B h7).trans h3, ?_, h5, h6, h7, h8⟩
  obtain ⟨q1, q2⟩ := h4
  refine ⟨q1, ?_⟩
  rcases q2 with q2 | ⟨g', cap', cur, hv, hg, hw, r⟩
  · exact .inl q2
  · have : g = g' := by simp at hv; exact hv.1
    subst this
    exact .inr ⟨g, cap', cur, hv, hg, (hb.block g h8).trans hw, r⟩
theorem Fil.kx {A W : World} {base g : Nat} {v : Value} {h : Nat} {D : List UInt8} (hf : Fil A base v h D) (hk : Kx g A W) (hg : g < base) : Fil W base v h D := by
  obtain ⟨B, g', cap, h1, h2, h3, h4, h5⟩ := hf
  refine ⟨B, g', cap, h1, h2, hk _ _ _ _ (by omega) h3, ?_, h5⟩
  obtain ⟨q1, q2⟩ := h4
  refine ⟨q1, ?_⟩
  rcases q2 with q2 | ⟨g2, cap', cur, hv, hg2, hw, r⟩
  · exact .inl q2
  · exact .inr ⟨g2, cap', cur, hv, hg2, hk _ _ _ _ (by omega) hw, r⟩
theorem add_two (v kv : Value) (h : Nat) (D key : List UInt8) (w : World) (lo hi : Nat) (hlo : lo ≤ w.heap.size) (hF : FilIn w lo hi v h D) (hR : Reads w kv key) :
    Calls Try.prog 13 #[v, kv] w fun e W' => e = .returned (.int .i64 0) ∧ FilIn W' lo hi v h (adF D (plc key (8 * D.length) h)) ∧ (∀ vx hx Dx, Fil w hi vx hx Dx → Fil W' hi vx hx Dx) ∧ Below lo w W' := by
  refine (add_any v kv h D key w lo hlo hF.fil hR).mono ?_
  rintro e W' ⟨rfl, hf, hb, hk⟩
  obtain ⟨B, g, cap, rfl, h2, h3, h4, h5, h6, h7, h8⟩ := hF
  have hkx := hk B g _ cap _ rfl h3
  refine ⟨rfl, ?_, fun vx hx Dx hfx => hfx.kx hkx h8, hb⟩
  obtain ⟨B', g', cap', e1, f2, f3, f4, f5, f6, f7, f8, f9⟩ := hf
  cases e1
  have f10 := hkx _ _ _ _ h5 h3
  rw [f3] at f10
  simp at f10
  obtain ⟨rfl, _, rfl⟩ := f10
  exact ⟨B, g', cap', rfl, f2, f3, f4, f5, ⟨f6, f7, f8, f9⟩, h7, h8⟩
end Go.Proofs.Ytgdjjpnejdedhaa
