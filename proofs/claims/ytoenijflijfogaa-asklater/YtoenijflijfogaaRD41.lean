/- BL0, joined. -/
import Derived.Test.YtoenijflijfogaaRD40
/- Layer 17: AskLater, plainly. -/
namespace Go.Proofs.Ytoenijflijfogaa
open Go.RowKit

theorem nodup_len {α : Type} [DecidableEq α] : ∀ (l m : List α), l.Nodup → (∀ x ∈ l, x ∈ m) → l.length ≤ m.length
  | [], _, _, _ => Nat.zero_le _
  | a :: l, m, hn, hs => by
    obtain ⟨h1, h2⟩ := List.nodup_cons.1 hn
    have ha := hs a (List.mem_cons_self ..)
    have ih := nodup_len l (m.erase a) h2 fun x hx => (List.mem_erase_of_ne (fun (e : x = a) => h1 (e ▸ hx))).2 (hs x (List.mem_cons_of_mem _ hx))
    have := List.length_erase_of_mem ha
    have := List.length_pos_of_mem ha
    rw [List.length_cons]
    omega
def bfM (x : Rw) : Bool := decide (x.f < 1099511627776)
def keyP (R : Rl) (x : En) : Bool := bfM (rowE R x)
/-- A bucket that begins at the greatest time stays so. -/
theorem top_stays {R : Rl} (hR : RightP R) {v f : Int} {g : Nat} (hb : Beg R f g) (hv : v ≤ 1099511627776) (hf : f = 1099511627776) : flq R v f g = f := by
  have hs : stp R f v = 0 := by
    rcases (stp_is hR f v).2.1 with h | h
    · exact h
    · exfalso
      have hk := (stp_is hR f v).1
      obtain ⟨z1, z2, _⟩ := hR.2.2.2.1 _ hk
      unfold cnd endF at h
      unfold isS at z1
      unfold isT at z2
      simp only [Bool.and_eq_true, decide_eq_true_eq] at z1 z2
      have := Int.emod_lt_of_pos f (show 0 < R.sz (stp R f v) by omega)
      omega
  unfold flq stq
  rw [hs, show max 0 g = g by omega, hb.m]
  omega
theorem later_key {R : Rl} (hR : RightP R) {v : Int} (hv : v ≤ 1099511627776) {x y : En} (hx : FitE R x) (hk : fk R v x.1 = some y.1) (hp : keyP R y = true) : keyP R x = true ∧ goneB R v (rowE R x).f = false := by
  obtain ⟨D, f, g, hr, hb⟩ := hx.k
  obtain ⟨_, h2, h3, h4, _⟩ := rdF_key hr
  have hfx : (rowE R x).f = f := by rw [rowE_of hr]
  rw [fk_of hr] at hk
  by_cases hg : goneB R v f = true
  · rw [if_pos hg] at hk; cases hk
  · rw [if_neg hg] at hk
    refine ⟨?_, by rw [hfx]; simpa using hg⟩
    have hgl : g.toNat < R.len := hb.gl
    have hrn := right_next hR hr hgl v
    have hyr := rdF_kb D (flq R v f g.toNat) ((stq R v f g.toNat : Nat) : Int) hrn
    rw [Option.some.inj hk] at hyr
    have hfy : (rowE R y).f = flq R v f g.toNat := by rw [rowE_of hyr]
    unfold keyP bfM at hp ⊢
    rw [hfy] at hp
    rw [hfx]
    simp only [decide_eq_true_eq] at hp ⊢
    by_cases he : f = 1099511627776
    · rw [top_stays hR hb hv he] at hp; exact hp
    · omega
theorem later_len {R : Rl} (hR : RightP R) {w v : Int} (hwv : w ≤ v) (hv : v ≤ 1099511627776) {L : List En} (hg : GdE L) (hf : FitL R L) :
    ((rowsE R v L).filter bfM).length ≤ (((rowsE R w L).filter bfM).filter fun x => !goneB R v x.f).length := by
  have hA := foldF_fit hR (w := w) hg hf
  have hB := foldF_later hR hwv hg hf
  have hS := foldF_srt R v L
  unfold rowsE
  rw [List.filter_map, List.filter_map, List.length_map, List.filter_map, List.length_map, List.filter_filter]
  have e1 : ((foldF R v L).filter (bfM ∘ rowE R)).length = (((foldF R v L).filter (bfM ∘ rowE R)).map (·.1)).length := by rw [List.length_map]
  have e2 : ((foldF R w L).filter fun a => ((fun x : Rw => !goneB R v x.f) ∘ rowE R) a && (bfM ∘ rowE R) a).length = (((foldF R w L).filter fun a => ((fun x : Rw => !goneB R v x.f) ∘ rowE R) a && (bfM ∘ rowE R) a).map fun x => (fk R v x.1).getD []).length := by rw [List.length_map]
  rw [e1, e2]
  refine nodup_len _ _ ?_ ?_
  · unfold List.Nodup
    rw [List.pairwise_map]
    unfold SrtE keysE at hS
    rw [List.pairwise_map] at hS
    exact (hS.filter _).imp fun {a b} h e => ltK_ne h e
  · intro k hk
    obtain ⟨y, hy, rfl⟩ := List.mem_map.1 hk
    obtain ⟨hy1, hy2⟩ := List.mem_filter.1 hy
    rw [← hB] at hy1
    obtain ⟨x, hx, hkx⟩ := foldF_key hy1
    obtain ⟨q1, q2⟩ := later_key hR hv (hA x hx) hkx hy2
    refine List.mem_map.2 ⟨x, List.mem_filter.2 ⟨hx, ?_⟩, by rw [hkx]; rfl⟩
    show (!goneB R v (rowE R x).f && bfM (rowE R x)) = true
    rw [q2]
    exact q1
theorem scan_all {R : Rl} {wm : Int} {L : List En} (hc : chkF R wm L = 0) (hn : ∀ x ∈ L, CnOk x.2) : scanF [] 0 1099511627776 (rowsE R wm L) = (rowsE R wm L).filter bfM := by
  unfold scanF
  refine List.filter_congr fun x hx => ?_
  have := (rows_ok hc hn x hx).f.1
  unfold bfM
  simp [this]
/-- What AskLater's loop counts. -/
def gnF (R : Rl) (v : Int) (l : List Rw) : Nat := (l.filter fun x => goneB R v x.f).length
theorem gnF_snoc (R : Rl) (v : Int) {l : List Rw} {k : Nat} (hk : k < l.length) : gnF R v (l.take (k + 1)) = gnF R v (l.take k) + (if goneB R v l[k].f = true then 1 else 0) := by
  unfold gnF
  rw [List.take_succ_eq_append_getElem hk, List.filter_append, List.length_append, List.filter_cons]
  split <;> rfl
theorem gnF_le (R : Rl) (v : Int) (l : List Rw) : gnF R v l ≤ l.length := List.length_filter_le _ _
theorem gn_part (R : Rl) (v : Int) : ∀ l : List Rw, gnF R v l + (l.filter fun x => !goneB R v x.f).length = l.length
  | [] => rfl
  | x :: l => by
    have ih := gn_part R v l
    unfold gnF at ih ⊢
    rw [List.filter_cons, List.filter_cons]
    cases goneB R v x.f <;> simp at ih ⊢ <;> omega
theorem later17 {R : Rl} {w v : Int} {L : List En} (hwv : w ≤ v) (h1 : chkF R w L = 0) (h2 : chkF R v L = 0) (hn : ∀ x ∈ L, CnOk x.2) {xs ys : List It} (hx : xs.map itR = scanF [] 0 1099511627776 (rowsE R w L)) (hy : ys.map itR = scanF [] 0 1099511627776 (rowsE R v L)) :
    ys.length ≤ xs.length ∧ ys.length + gnF R v (xs.map itR) ≤ xs.length := by
  obtain ⟨_, hR, _, _, hf⟩ := chkF_ok h1
  obtain ⟨_, _, hT, _, _⟩ := chkF_ok h2
  have hg := fit_gd hf hn
  have hv : v ≤ 1099511627776 := by unfold isT at hT; simp at hT; exact hT.2
  have h3 := later_len hR hwv hv hg hf
  rw [scan_all h1 hn] at hx
  rw [scan_all h2 hn] at hy
  rw [← hx, ← hy, List.length_map] at h3
  have h4 := gn_part R v (xs.map itR)
  rw [List.length_map] at h4
  omega
end Go.Proofs.Ytoenijflijfogaa
