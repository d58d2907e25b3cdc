/- FA2 FA3 PT0 GAp PT1, joined. -/
import Derived.Test.YthicmbjiblbcmaaGreatTQ5
import Derived.Test.YthicmbjiblbcmaaGreatTQ35
import Derived.Test.YthicmbjiblbcmaaGreatTQ7
import Derived.Test.YthicmbjiblbcmaaGreatTQ23
import Derived.Test.YthicmbjiblbcmaaGreatTQ27
import Derived.Test.YthicmbjiblbcmaaGreatTQ28
import Derived.Laws.AppendOwn
import Derived.Laws.AppendOwnNone
/- The walk of FoldLater. -/
namespace Go.Proofs.YthicmbjiblbcmaaGreat
open Go.RowKit

end Go.Proofs.YthicmbjiblbcmaaGreat

/- The walk of FoldParts. -/
namespace Go.Proofs.YthicmbjiblbcmaaGreat
open Go.RowKit Go.Joins

theorem fit_row {R : Rl} {L : List En} (hs : SrtE L) (hf : FitL R L) : rowF L = 0 := rowF_of hs (fun x hx => (hf x hx).r)
/-- Put together, they fit. -/
theorem can_fit {R : Rl} {A : List En} (hg : GdE A) (hf : FitL R A) : FitL R (can A) := by
  intro y hy
  obtain ⟨z, hz, e⟩ := can_mem hy
  refine ⟨by rw [e]; exact (hf z hz).k, ?_, (can_gd hg y hy).r⟩
  exact can_pos hg (fun u hu => (hf u hu).c) y hy
end Go.Proofs.YthicmbjiblbcmaaGreat

/- TopTree, plainly: what a tree of runs knows; a task that is done. -/
namespace Go.Proofs.YthicmbjiblbcmaaGreat
open Go.RowKit

/-- The row of a file. -/
def rwT (G : List (List En)) (f : Int) : List En := G.getD f.toNat []
def rowsT (L : List Rn) (G : List (List En)) : List (List En) := L.map fun r => rwT G r.f
structure RunOk (R : Rl) (w : Int) (G : List (List En)) (r : Rn) : Prop where
  f : r.f.toNat < G.length
  c : r.c = ((rwT G r.f).length : Int)
  k : chkF R w (rwT G r.f) = 0
  g : GdE (rwT G r.f)
  s : r.s = staleF R w (rwT G r.f)
/-- A tree: its runs, and the rows of all files. -/
structure TInv (R : Rl) (w : Int) (L : List Rn) (G : List (List En)) (N : Nat) : Prop where
  ok : okR L
  ro : ∀ r ∈ L, RunOk R w G r
  n : (rowsT L G).flatten.length ≤ N
/-- What all runs together know, folded. -/
noncomputable def kowT (R : Rl) (w : Int) (L : List Rn) (G : List (List En)) : List En := foldF R w (allF (rowsT L G))
theorem fold_can {R : Rl} {w : Int} {M : List En} (h : GdE M) : foldF R w (can M) = foldF R w M := can_fm (fk R w) h GdE.nil
theorem fold_perm {R : Rl} {w : Int} {A B : List En} (hp : A.Perm B) (h : GdE A) : foldF R w A = foldF R w B := can_perm (fm_perm _ hp) (fm_gd _ h)
structure RowsOk (R : Rl) (w : Int) (rs : List (List En)) : Prop where
  z : rowsF rs = 0
  g : GdE rs.flatten
  f : FitL R rs.flatten
  ga : GdE (allF rs)
  sa : SrtE (allF rs)
  fa : FitL R (allF rs)
  l : (allF rs).length ≤ rs.flatten.length
  e : foldF R w (allF rs) = foldF R w rs.flatten
theorem rows_ok15 {R : Rl} {w : Int} {rs : List (List En)} (h : ∀ r ∈ rs, chkF R w r = 0 ∧ GdE r) : RowsOk R w rs := by
  have hz : rowsF rs = 0 := rowsF_ok.2 fun r hr => by
    obtain ⟨_, _, _, h4, h5⟩ := chkF_ok (h r hr).1
    exact fit_row h4 h5
  have hG : GdR rs := fun r hr => (h r hr).2
  have hg : GdE rs.flatten := hG.flat
  have hf : FitL R rs.flatten := fun x hx => by
    obtain ⟨r, hr, hx⟩ := List.mem_flatten.1 hx
    obtain ⟨_, _, _, _, h5⟩ := chkF_ok (h r hr).1
    exact h5 x hx
  have ha := allF_can hz hG
  exact ⟨hz, hg, hf, by rw [ha]; exact can_gd hg, by rw [ha]; exact can_srt _, by rw [ha]; exact can_fit hg hf, by rw [ha]; exact can_len _, by rw [ha]; exact fold_can hg⟩
theorem TInv.rows {R : Rl} {w : Int} {L : List Rn} {G : List (List En)} {N : Nat} (h : TInv R w L G N) : ∀ r ∈ rowsT L G, chkF R w r = 0 ∧ GdE r := fun r hr => by
  obtain ⟨x, hx, rfl⟩ := List.mem_map.1 hr
  exact ⟨(h.ro x hx).k, (h.ro x hx).g⟩
theorem fold_two {R : Rl} (hR : RightP R) {w : Int} {A B : List En} (gA : GdE A) (gB : GdE B) (fB : FitL R B) : foldF R w (A ++ foldF R w B) = foldF R w (A ++ B) := by
  have h1 := foldF_later hR (Int.le_refl w) gB fB
  unfold foldF at h1 ⊢
  rw [fm_app, fm_app, ← can_two (fm_gd _ gA) (fm_gd _ (can_gd (fm_gd _ gB))), h1, can_two (fm_gd _ gA) (fm_gd _ gB)]
theorem sub_filter {α : Type} {p : α → Bool} : ∀ {M L : List α}, M.Sublist L → L.Nodup → (∀ r, r ∈ M ↔ r ∈ L ∧ p r = true) → M = L.filter p := by
  intro M L hs
  induction hs with
  | slnil => intro _ _; rfl
  | @cons M L a hs ih =>
    intro hn hm
    obtain ⟨h1, h2⟩ := List.nodup_cons.1 hn
    have hp : ¬ p a = true := fun hp => h1 (hs.subset ((hm a).2 ⟨List.mem_cons_self .., hp⟩))
    rw [List.filter_cons_of_neg hp]
    exact ih h2 fun r => ⟨fun hr => ⟨hs.subset hr, ((hm r).1 hr).2⟩, fun hr => (hm r).2 ⟨List.mem_cons_of_mem _ hr.1, hr.2⟩⟩
  | @cons_cons M L a hs ih =>
    intro hn hm
    obtain ⟨h1, h2⟩ := List.nodup_cons.1 hn
    have hp : p a = true := ((hm a).1 (List.mem_cons_self ..)).2
    rw [List.filter_cons_of_pos hp]
    refine congrArg _ (ih h2 fun r => ⟨fun hr => ⟨hs.subset hr, ((hm r).1 (List.mem_cons_of_mem _ hr)).2⟩, fun hr => ?_⟩)
    rcases List.mem_cons.1 ((hm r).2 ⟨List.mem_cons_of_mem _ hr.1, hr.2⟩) with rfl | h
    · exact absurd hr.1 h1
    · exact h
theorem perm_nd : ∀ {a b : List Int}, a.Nodup → b.Nodup → (∀ x, x ∈ a ↔ x ∈ b) → a.Perm b
  | [], b, _, _, h => by
    have : b = [] := List.eq_nil_iff_forall_not_mem.2 fun x hx => by have := (h x).2 hx; cases this
    rw [this]
  | x :: a, b, ha, hb, h => by
    obtain ⟨h1, h2⟩ := List.nodup_cons.1 ha
    have hx : x ∈ b := (h x).1 (List.mem_cons_self ..)
    refine List.Perm.trans (List.Perm.cons x (perm_nd h2 (hb.erase x) fun y => ?_)) (List.perm_cons_erase hx).symm
    rw [hb.mem_erase_iff]
    refine ⟨fun hy => ⟨fun e => h1 (e ▸ hy), (h y).1 (List.mem_cons_of_mem _ hy)⟩, fun ⟨hy1, hy2⟩ => ?_⟩
    rcases List.mem_cons.1 ((h y).2 hy2) with e | hy
    · exact absurd e hy1
    · exact hy
theorem uq_nd {L : List Rn} (h : Uq L) : L.Nodup := by
  rw [List.nodup_iff_pairwise_ne]
  exact h.imp fun h e => h (by rw [e])
/-- All runs are those that are left and those of a task. -/
theorem split_perm {L M : List Rn} (hu : Uq L) {fs : List Int} (hn : fs.Nodup) (hi : ∀ f ∈ fs, ∃ r ∈ L, r.f = f) (hs : M.Sublist L) (hm : ∀ r, r ∈ M ↔ r ∈ L ∧ r.f ∉ fs) (G : List (List En)) :
    (rowsT L G).Perm (rowsT M G ++ fs.map (rwT G)) := by
  have hM : M = L.filter fun r => !decide (r.f ∈ fs) := sub_filter hs (uq_nd hu) fun r => by rw [hm r]; simp
  have h1 : (L.filter (fun r => decide (r.f ∈ fs)) ++ L.filter (fun r => !decide (r.f ∈ fs))).Perm L := List.filter_append_perm _ L
  have h2 : ((L.filter fun r => decide (r.f ∈ fs)).map Rn.f).Perm fs := by
    refine perm_nd ?_ hn fun x => ⟨fun hx => ?_, fun hx => ?_⟩
    · rw [List.nodup_iff_pairwise_ne, List.pairwise_map]
      exact (List.Pairwise.sublist List.filter_sublist hu)
    · obtain ⟨r, hr, rfl⟩ := List.mem_map.1 hx
      simpa using (List.mem_filter.1 hr).2
    · obtain ⟨r, hr, rfl⟩ := hi x hx
      exact List.mem_map.2 ⟨r, List.mem_filter.2 ⟨hr, by simpa using hx⟩, rfl⟩
  have h3 := (h1.symm.trans List.perm_append_comm).map fun r => rwT G r.f
  rw [List.map_append, ← hM] at h3
  refine h3.trans (List.Perm.append_left _ ?_)
  have h4 := h2.map (rwT G)
  rw [List.map_map] at h4
  exact h4
theorem rwT_new {G : List (List En)} {l : List En} {f : Int} (h : f.toNat < G.length) : rwT (G ++ [l]) f = rwT G f := by
  unfold rwT
  rw [List.getD_eq_getElem?_getD, List.getD_eq_getElem?_getD, List.getElem?_append_left h]
theorem rwT_last (G : List (List En)) (l : List En) : rwT (G ++ [l]) (G.length : Int) = l := by
  unfold rwT
  rw [List.getD_eq_getElem?_getD]
  simp
theorem RunOk.new {R : Rl} {w : Int} {G : List (List En)} {r : Rn} (h : RunOk R w G r) (l : List En) : RunOk R w (G ++ [l]) r := by
  have e := rwT_new (l := l) h.f
  exact ⟨by rw [List.length_append]; have := h.f; omega, by rw [e]; exact h.c, by rw [e]; exact h.k, by rw [e]; exact h.g, by rw [e]; exact h.s⟩
theorem rowsT_new {L : List Rn} {G : List (List En)} {l : List En} (h : ∀ r ∈ L, r.f.toNat < G.length) : rowsT L (G ++ [l]) = rowsT L G :=
  List.map_congr_left fun r hr => rwT_new (h r hr)
/-- One more run. -/
theorem tree_add {R : Rl} {w : Int} {L : List Rn} {G : List (List En)} {N : Nat} (h : TInv R w L G N) (hL : L.length < 64) (hG : 1 ≤ G.length) {l : List En} (hk : chkF R w l = 0) (hg : GdE l) (hne : l ≠ []) {n : Nat} (hn : l.length ≤ n) :
    TInv R w (L ++ [⟨(G.length : Int), 0, (l.length : Int), staleF R w l⟩]) (G ++ [l]) (N + n) := by
  have hpos := List.length_pos_iff.2 hne
  refine ⟨⟨by rw [List.length_append]; show L.length + 1 ≤ 64; omega, fun r hr => ?_, ?_⟩, fun r hr => ?_, ?_⟩
  · rcases List.mem_append.1 hr with hr | hr
    · exact h.ok.2.1 r hr
    · obtain rfl := List.mem_singleton.1 hr
      exact ⟨by show (1 : Int) ≤ (G.length : Int); omega, by show (0 : Int) ≤ 0; omega, by show (0 : Int) ≤ 3; omega, by show (1 : Int) ≤ (l.length : Int); omega⟩
  · rw [List.pairwise_append]
    refine ⟨h.ok.2.2, List.pairwise_singleton _ _, fun a ha b hb => ?_⟩
    obtain rfl := List.mem_singleton.1 hb
    refine ⟨fun e => ?_, fun e => absurd e.1 (by show ¬ (0 : Int) < 0; omega)⟩
    have h1 := (h.ro a ha).f
    have h2 : a.f = (G.length : Int) := e
    omega
  · rcases List.mem_append.1 hr with hr | hr
    · exact (h.ro r hr).new l
    · obtain rfl := List.mem_singleton.1 hr
      have e := rwT_last G l
      exact ⟨by rw [List.length_append]; show (G.length : Int).toNat < G.length + 1; omega, by rw [e], by rw [e]; exact hk, by rw [e]; exact hg, by rw [e]⟩
  · unfold rowsT
    rw [List.map_append, List.flatten_append, List.length_append]
    have h1 := h.n
    rw [← rowsT_new (l := l) (fun r hr => (h.ro r hr).f)] at h1
    unfold rowsT at h1
    have h2 : ([⟨(G.length : Int), 0, (l.length : Int), staleF R w l⟩].map fun r : Rn => rwT (G ++ [l]) r.f) = [l] := by
      show [rwT (G ++ [l]) (G.length : Int)] = [l]
      rw [rwT_last]
    rw [h2]
    simp only [List.flatten_cons, List.flatten_nil, List.append_nil]
    omega
theorem sumC_len {R : Rl} {w : Int} {L : List Rn} {G : List (List En)} {N : Nat} (h : TInv R w L G N) : ∀ fs : List Int, (∀ f ∈ fs, ∃ r ∈ L, r.f = f) → sumC L fs = (((fs.map (rwT G)).flatten.length : Nat) : Int)
  | [], _ => rfl
  | f :: fs, hi => by
    have ih := sumC_len h fs fun g hg => hi g (List.mem_cons_of_mem _ hg)
    obtain ⟨r, hr, rfl⟩ := hi f (List.mem_cons_self ..)
    have h1 := cntO_eq (okR_uq h.ok) hr
    rw [(h.ro r hr).c] at h1
    unfold sumC at ih ⊢
    rw [List.map_cons, List.sum_cons, ih, h1, List.map_cons, List.flatten_cons, List.length_append]
    omega
/-- A task that is offered, done. -/
theorem tree_step {R : Rl} {w : Int} {L : List Rn} {G : List (List En)} {N : Nat} (h : TInv R w L G N) (hfe : fE R 0 w = 0) (hR : RightP R) (hs : (offT L).s = true) (hG : 1 ≤ G.length) {rs : List (List En)} (hrs : rs = (offT L).fs.map (rwT G)) {l : List En} (hl : l = foldF R w (allF rs)) :
    (∀ f ∈ (offT L).fs, 1 ≤ f ∧ f.toNat < G.length) ∧ (∀ r ∈ rs, chkF R w r = 0 ∧ GdE r) ∧ rs.flatten.length ≤ N ∧
      ∃ M', aftF L (offT L).fs (offT L).lv (G.length : Int) (l.length : Int) = some M' ∧ TInv R w M' (G ++ [l]) N ∧ kowT R w M' (G ++ [l]) = kowT R w L G ∧ mu M' + 1 ≤ mu L := by
  have hT := off_ok h.ok hs
  have hin : ∀ f ∈ (offT L).fs, ∃ r ∈ L, r.f = f := hT.nm
  have hrk : ∀ r ∈ rs, chkF R w r = 0 ∧ GdE r := fun r hr => by
    rw [hrs] at hr
    obtain ⟨f, hf, rfl⟩ := List.mem_map.1 hr
    obtain ⟨x, hx, rfl⟩ := hin f hf
    exact ⟨(h.ro x hx).k, (h.ro x hx).g⟩
  have ho := rows_ok15 hrk
  have hll : l.length ≤ rs.flatten.length := by rw [hl]; exact Nat.le_trans (foldF_len _ _ _) ho.l
  have hn1 : (l.length : Int) ≤ sumC L (offT L).fs := by
    rw [sumC_len h _ hin, ← hrs]
    omega
  have hnf : ∀ r ∈ L, r.f ∉ (offT L).fs → r.f ≠ (G.length : Int) := fun r hr _ e => by
    have h1 := (h.ro r hr).f
    omega
  obtain ⟨M, hsub, hmem, hlen, haft, hok⟩ := off_step h.ok hT (f := (G.length : Int)) (n := (l.length : Int)) (by omega) (by omega) hn1 hnf
  have hperm := split_perm (okR_uq h.ok) hT.nd hin hsub hmem G
  rw [← hrs] at hperm
  have hMr : ∀ r ∈ M, RunOk R w G r := fun r hr => h.ro r (hsub.subset hr)
  have hMf : ∀ r ∈ M, r.f.toNat < G.length := fun r hr => (hMr r hr).f
  have hlk : chkF R w l = 0 := by rw [hl]; exact chkF_of hfe (foldF_srt _ _ _) (foldF_fit hR ho.ga ho.fa)
  have hlg : GdE l := by rw [hl]; exact foldF_gd ho.ga
  have hls : staleF R w l = false := by rw [hl]; exact staleF_of (foldF_fix hR ho.fa)
  have hflat : (rowsT (if 0 < (l.length : Int) then M ++ [⟨(G.length : Int), (offT L).lv, (l.length : Int), false⟩] else M) (G ++ [l])).flatten = (rowsT M G).flatten ++ l := by
    by_cases hn : 0 < (l.length : Int)
    · rw [if_pos hn]
      unfold rowsT
      rw [List.map_append, List.flatten_append]
      have h2 : ([⟨(G.length : Int), (offT L).lv, (l.length : Int), false⟩].map fun r : Rn => rwT (G ++ [l]) r.f) = [l] := by
        show [rwT (G ++ [l]) (G.length : Int)] = [l]
        rw [rwT_last]
      have h3 := rowsT_new (l := l) hMf
      unfold rowsT at h3
      rw [h2, h3]
      simp
    · rw [if_neg hn, rowsT_new hMf]
      have : l = [] := List.length_eq_zero_iff.1 (by omega)
      rw [this, List.append_nil]
  have hpl := hperm.flatten
  rw [List.flatten_append] at hpl
  have hplen := hpl.length_eq
  rw [List.length_append] at hplen
  refine ⟨fun f hf => ?_, hrk, by have := h.n; omega, _, haft, ⟨hok, fun r hr => ?_, ?_⟩, ?_, mu_step h.ok hs hn1 hsub hmem rfl⟩
  · obtain ⟨r, hr, rfl⟩ := hin f hf
    exact ⟨(h.ok.2.1 r hr).1, (h.ro r hr).f⟩
  · by_cases hn : 0 < (l.length : Int)
    · rw [if_pos hn] at hr
      rcases List.mem_append.1 hr with hr | hr
      · exact (hMr r hr).new l
      · obtain rfl := List.mem_singleton.1 hr
        have e := rwT_last G l
        exact ⟨by rw [List.length_append]; show (G.length : Int).toNat < G.length + 1; omega, by rw [e], by rw [e]; exact hlk, by rw [e]; exact hlg, by rw [e, hls]⟩
    · rw [if_neg hn] at hr
      exact (hMr r hr).new l
  · rw [hflat, List.length_append]
    have := h.n
    omega
  · have hI2 : ∀ r ∈ rowsT (if 0 < (l.length : Int) then M ++ [⟨(G.length : Int), (offT L).lv, (l.length : Int), false⟩] else M) (G ++ [l]), chkF R w r = 0 ∧ GdE r := fun r hr => by
      obtain ⟨x, hx, rfl⟩ := List.mem_map.1 hr
      by_cases hn : 0 < (l.length : Int)
      · rw [if_pos hn] at hx
        rcases List.mem_append.1 hx with hx | hx
        · have := (hMr x hx).new l
          exact ⟨this.k, this.g⟩
        · obtain rfl := List.mem_singleton.1 hx
          show chkF R w (rwT (G ++ [l]) (G.length : Int)) = 0 ∧ GdE (rwT (G ++ [l]) (G.length : Int))
          rw [rwT_last]
          exact ⟨hlk, hlg⟩
      · rw [if_neg hn] at hx
        have := (hMr x hx).new l
        exact ⟨this.k, this.g⟩
    have o1 := rows_ok15 h.rows
    have o2 := rows_ok15 hI2
    have hgA : GdE (rowsT M G).flatten := fun y hy => o1.g y (hpl.mem_iff.2 (List.mem_append_left _ hy))
    unfold kowT
    rw [o1.e, o2.e, hflat, hl, ho.e, fold_two hR hgA ho.g ho.f]
    exact (fold_perm hpl o1.g).symm
end Go.Proofs.YthicmbjiblbcmaaGreat

/- Append to a row whose capacity may end ahead of its block, with where the new row lies; what a call touches, as a set of blocks. -/
namespace Go.Proofs.YthicmbjiblbcmaaGreat
open Go.RowKit

/-- Nothing that was there has turned but blocks of O. -/
structure Onl (O : Nat → Prop) (w w' : World) : Prop where
  os : w'.os = w.os
  tape : w'.tape = w.tape
  output : w'.output = w.output
  size : w.heap.size ≤ w'.heap.size
  block : ∀ k, k < w.heap.size → ¬ O k → w'.heap[k]? = w.heap[k]?
/-- O, and what is new. -/
def Grw (O : Nat → Prop) (w w' : World) (k : Nat) : Prop := O k ∨ (w.heap.size ≤ k ∧ k < w'.heap.size)
theorem Onl.refl (O : Nat → Prop) (w : World) : Onl O w w := ⟨rfl, rfl, rfl, Nat.le_refl _, fun _ _ _ => rfl⟩
theorem Onl.trans {O : Nat → Prop} {w w1 w2 : World} (h : Onl O w w1) (h' : Onl (Grw O w w1) w1 w2) : Onl O w w2 :=
  ⟨h'.os.trans h.os, h'.tape.trans h.tape, h'.output.trans h.output, Nat.le_trans h.size h'.size, fun k hk ho => (h'.block k (Nat.lt_of_lt_of_le hk h.size) (fun q => q.elim ho (fun r => by omega))).trans (h.block k hk ho)⟩
theorem Onl.mono {O O' : Nat → Prop} {w w' : World} (h : Onl O w w') (hO : ∀ k, O k → O' k) : Onl O' w w' := ⟨h.os, h.tape, h.output, h.size, fun k hk ho => h.block k hk (fun q => ho (hO k q))⟩
theorem Onl.then {O : Nat → Prop} {w w1 w2 : World} (h : Onl O w w1) (h' : Onl O w1 w2) : Onl O w w2 := h.trans (h'.mono fun _ q => .inl q)
theorem Onl.below {O : Nat → Prop} {w w' : World} {base : Nat} (h : Onl O w w') (hb : base ≤ w.heap.size) (hO : ∀ k, O k → base ≤ k) : Below base w w' := ⟨h.os, h.tape, h.output, h.size, fun k hk => h.block k (by omega) (fun q => by have := hO k q; omega)⟩
theorem onl_of_below {O : Nat → Prop} {w w' : World} (h : Below w.heap.size w w') : Onl O w w' := ⟨h.os, h.tape, h.output, h.size, fun k hk _ => h.block k hk⟩
theorem Grw.lt {O : Nat → Prop} {w w' : World} (h : ∀ k, O k → k < w.heap.size) (hs : w.heap.size ≤ w'.heap.size) : ∀ k, Grw O w w' k → k < w'.heap.size := fun k hk => hk.elim (fun q => Nat.lt_of_lt_of_le (h k q) hs) (fun q => q.2)
theorem Grw.trans {O : Nat → Prop} {w w1 w2 : World} (h1 : w.heap.size ≤ w1.heap.size) (h2 : w1.heap.size ≤ w2.heap.size) : ∀ k, Grw (Grw O w w1) w1 w2 k → Grw O w w2 k := fun k hk => by
  rcases hk with (q | q) | q
  · exact .inl q
  · exact .inr ⟨q.1, by omega⟩
  · exact .inr ⟨by omega, q.2⟩
theorem Onl.set {O : Nat → Prop} {w : World} {a : Addr} (h : O a.block) (v : Value) : Onl O w (w.setCell a v) := by
  have hb := (Below.refl 0 w).setCell (p := a) (Nat.zero_le _) v
  exact ⟨hb.os, hb.tape, hb.output, hb.size, fun k _ ho => Below.heap_setCell _ _ _ _ (fun e => ho (e ▸ h))⟩
theorem Onl.alloc {O : Nat → Prop} {w : World} (o : Obj) : Onl O w (w.alloc o) := onl_of_below ((Below.refl _ _).alloc (Nat.le_refl _) _)
theorem Onl.grown {O : Nat → Prop} {w w' : World} {row : Option Nat} (h : w.grownBy w' row) (hr : ∀ k, row = some k → O k) : Onl O w w' := ⟨h.os, h.tape, h.output, h.size, fun k hk ho => h.block k hk (fun e => ho (hr k e.symm))⟩
/-- A row of one's own, in a block that may go on behind its capacity. -/
def GOwn (w : World) (e : TypeId) (size : Nat) (v : Value) (n : Nat) (xs : List Value) : Prop :=
  xs.length = n * size ∧ ((v = .slice none 0 0 ∧ n = 0) ∨ ∃ g cap cur, v = .slice (some ⟨g, 0, none⟩) n cap ∧ w.heap[g]? = some (.cells cur e (0, 0)) ∧ n ≤ cap ∧ cap ≤ maxLen ∧ cap * size ≤ cur.size ∧ cur.toList.take (n * size) = xs)
theorem GOwn.nil (w : World) (e : TypeId) (size : Nat) : GOwn w e size (.slice none 0 0) 0 [] := ⟨by simp, .inl ⟨rfl, rfl⟩⟩
theorem GOwn.keep {w w' : World} {e : TypeId} {size : Nat} {v : Value} {n : Nat} {xs : List Value} (h : GOwn w e size v n xs) (hk : ∀ k, v.ownBlock = some k → w'.heap[k]? = w.heap[k]?) : GOwn w' e size v n xs := by
  refine ⟨h.1, ?_⟩
  rcases h.2 with h2 | ⟨g, cap, cur, rfl, h3, r⟩
  · exact .inl h2
  · exact .inr ⟨g, cap, cur, rfl, (hk g rfl).trans h3, r⟩
theorem GOwn.block {w : World} {e : TypeId} {size : Nat} {v : Value} {n : Nat} {xs : List Value} (h : GOwn w e size v n xs) {k : Nat} (hk : v.ownBlock = some k) : ∃ cur, w.heap[k]? = some (.cells cur e (0, 0)) := by
  rcases h.2 with ⟨rfl, _⟩ | ⟨g, cap, cur, rfl, h3, r⟩
  · simp [Value.ownBlock] at hk
  · obtain rfl : g = k := by simpa [Value.ownBlock] using hk
    exact ⟨cur, h3⟩
theorem GOwn.form {w : World} {e : TypeId} {size : Nat} {v : Value} {n : Nat} {xs : List Value} (h : GOwn w e size v n xs) : ∃ a cap, v = .slice a n cap ∧ n ≤ cap ∧ cap ≤ maxLen ∧ (∀ b, a = some b → b = ⟨b.block, 0, none⟩) ∧ (a = none → n = 0 ∧ cap = 0) := by
  rcases h.2 with ⟨rfl, rfl⟩ | ⟨g, cap, cur, rfl, h3, h4, h5, _⟩
  · exact ⟨none, 0, rfl, Nat.le_refl _, Nat.zero_le _, (fun b hb => by cases hb), (fun _ => ⟨rfl, rfl⟩)⟩
  · exact ⟨_, cap, rfl, h4, h5, fun b hb => by cases hb; rfl, fun hb => by cases hb⟩
theorem GOwn.cells {w : World} {e : TypeId} {size : Nat} {v : Value} {n : Nat} {xs : List Value} (h : GOwn w e size v n xs) {g : Nat} (hg : v.ownBlock = some g) : ∀ j u, xs[j]? = some u → w.cell? ((⟨g, 0, none⟩ : Addr).add j) = some u := by
  intro j u hj
  rcases h.2 with ⟨rfl, _⟩ | ⟨g', cap, cur, rfl, h3, h4, h5, h6, h7⟩
  · simp [Value.ownBlock] at hg
  · obtain rfl : g' = g := by simpa [Value.ownBlock] using hg
    have ea : (⟨g', 0, none⟩ : Addr).add j = ⟨g', j, none⟩ := by simp [Addr.add]; omega
    rw [ea]
    rw [← h7, List.getElem?_take] at hj
    split at hj
    · simp only [World.cell?, h3]
      rw [Array.getElem?_toList] at hj
      simpa using hj
    · cases hj
/-- Bytes: what the slice reads. -/
theorem gown_reads {w : World} {v : Value} {l : List UInt8} (h : GOwn w 5 1 v l.length (l.map bc)) : Reads w v l := by
  have hc := @GOwn.cells _ _ _ _ _ _ h
  rcases h.2 with ⟨rfl, h0⟩ | ⟨g, cap, cur, rfl, h3, h4, h5, h6, h7⟩
  · exact .inl ⟨List.length_eq_zero_iff.1 h0, none, 0, rfl, fun _ => rfl⟩
  · rcases Nat.eq_zero_or_pos l.length with h0 | h0
    · exact .inl ⟨List.length_eq_zero_iff.1 h0, _, cap, by rw [h0], fun q => by cases q⟩
    · refine .inr ⟨g, 0, cap, rfl, h0, h4, h5, (Array.getElem?_eq_some_iff.1 h3).1, fun j hj => ?_⟩
      have := hc (g := g) rfl j (bc l[j]) (by simp [hj])
      have ea : (⟨g, 0, none⟩ : Addr).add j = ⟨g, 0 + j, none⟩ := by simp [Addr.add]; omega
      rw [ea] at this
      exact this
/-- Where what is appended stands. -/
def GSrc (w : World) (size : Nat) (vx : Value) (m : Nat) (news : List Value) : Prop :=
  news.length = m * size ∧ ((vx = .slice none 0 0 ∧ m = 0) ∨ ∃ a c, vx = .slice (some a) m c ∧ ∀ j u, news[j]? = some u → w.cell? (a.add j) = some u)
theorem run_gapp {P : Program} {w : World} (t ty e : TypeId) (i : TypeInfo) (z : Value) (size bytes : Nat) (ht : P.underlying t = some (.slice e)) (hi : P.info? e = some i) (hz : i.zero = some z)
    (hsize : i.size = size) (hby : i.bytes = bytes) (hzs : z.cells.size = size)
    (v : Value) (n : Nat) (xs : List Value) (hown : GOwn w e size v n xs) (vx : Value) (m : Nat) (news : List Value) (hx : GSrc w size vx m news) (h1 : ∀ u ∈ news, u.oneCell' = true)
    (h63 : n + m ≤ maxLen) (hbytes : (n + m) * bytes ≤ 140737488355328) :
    ∃ v' w', (Builtin.append_ #[t, t] ty #[v, vx]).run P w = .ok v' w' ∧ GOwn w' e size v' (n + m) (xs ++ news) ∧ w.grownBy w' v.ownBlock ∧ (∀ k, v'.ownBlock = some k → v.ownBlock = some k ∨ (w.heap.size ≤ k ∧ k < w'.heap.size)) := by
  subst hsize
  subst hby
  have hsmall : n + m ≤ 9223372036854775807 := by simp only [maxLen] at h63; omega
  obtain ⟨hl, hx⟩ := hx
  have hlen : (xs ++ news).length = (n + m) * i.size := by rw [List.length_append, hown.1, hl, Nat.add_mul]
  have grown : ∀ (old : Nat), old < n + m → ∀ (row : Option Nat),
      GOwn (w.drew.alloc (.cells (xs.toArray ++ news.toArray ++ Builtin.zeroCells z.cells (grownCap w (n + m) old e - (n + m))) e)) e i.size
        (.slice (some ⟨w.heap.size, 0, none⟩) (n + m) (grownCap w (n + m) old e)) (n + m) (xs ++ news) ∧
      w.grownBy (w.drew.alloc (.cells (xs.toArray ++ news.toArray ++ Builtin.zeroCells z.cells (grownCap w (n + m) old e - (n + m))) e)) row := by
    intro old ho row
    have hge := grownCap_ge w (n + m) old e
    have hcm : grownCap w (n + m) old e ≤ maxLen := grownCap_le_maxLen w (n + m) old e h63
    refine ⟨⟨hlen, .inr ⟨w.heap.size, _, _, rfl, heap_alloc_new w.drew _, hge, hcm, ?_, ?_⟩⟩, ⟨rfl, rfl, rfl, by simp, fun k hk _ => Below.heap_alloc w.drew _ k hk⟩⟩
    · simp only [Array.size_append, List.size_toArray, size_zeroCells, hzs, hown.1, hl, ← Nat.add_mul]
      exact Nat.mul_le_mul_right _ (by omega)
    · simp only [Array.toList_append, List.append_assoc]
      rw [← List.append_assoc, ← hlen]
      exact List.take_left
  rcases hx with ⟨rfl, rfl⟩ | ⟨a, c, rfl, hnews⟩
  · have hn : news = [] := List.eq_nil_of_length_eq_zero (by simpa using hl)
    subst hn
    rw [Nat.add_zero, List.append_nil]
    refine ⟨v, w, ?_, hown, ⟨rfl, rfl, rfl, Nat.le_refl _, fun _ _ _ => rfl⟩, fun k hk => .inl hk⟩
    rcases hown.2 with ⟨rfl, rfl⟩ | ⟨g, cap, cur, rfl, hg, hnc, hcm, hcs, htake⟩
    · simp [Builtin.append_, run_underlying ht, sizeOf, typeInfo, hi, Builtin.lenOf, Builtin.firstCells]
    · have hst := run_storeCells_at P g (n * i.size) e [] 0 cur w hg (by have := Nat.mul_le_mul_right i.size hnc; simp; omega) (by simp)
      simp only [Nat.add_zero] at hst
      simp [Builtin.append_, run_underlying ht, sizeOf, typeInfo, hi, Builtin.lenOf, hnc, Builtin.firstCells, storeCells]
  · rcases hown.2 with ⟨rfl, rfl⟩ | ⟨g, cap, cur, rfl, hg, hnc, hcm, hcs, htake⟩
    · have hxn : xs = [] := List.eq_nil_of_length_eq_zero (by simpa using hown.1)
      subst hxn
      by_cases hm : m = 0
      · subst hm
        have hn : news = [] := List.eq_nil_of_length_eq_zero (by simpa using hl)
        subst hn
        refine ⟨.slice none 0 0, w, ?_, hown, ⟨rfl, rfl, rfl, Nat.le_refl _, fun _ _ _ => rfl⟩, fun k hk => by simp [Value.ownBlock] at hk⟩
        simp [Builtin.append_, run_underlying ht, sizeOf, typeInfo, hi, Builtin.lenOf, Builtin.firstCells, loadCells, loadCellsFrom]
      · have hr := run_append_nil (P := P) w t ty e i z ht hi hz a m c news hl hnews (by omega) (by omega) (by have hb := hbytes; simp only [Nat.zero_add] at hb; omega)
        have hgr := grown 0 (by omega) (Value.ownBlock (.slice none 0 0))
        simp only [Nat.zero_add, List.nil_append, Array.empty_append] at hgr ⊢
        exact ⟨_, _, hr, hgr.1, hgr.2, fun k hk => .inr (by simp [Value.ownBlock] at hk; simp; omega)⟩
    · by_cases hroom : n + m ≤ cap
      · have hfit : n * i.size + news.length ≤ cur.size := by rw [hl, ← Nat.add_mul]; exact Nat.le_trans (Nat.mul_le_mul_right _ hroom) hcs
        have hr := run_append_room (P := P) w t ty e i ht hi g n cap cur hg a m c news hl hnews h1 hroom hfit
        refine ⟨_, _, hr, ⟨hlen, .inr ⟨g, cap, _, rfl, setRow_heap w g cur _ e _ hg, hroom, hcm, ?_, ?_⟩⟩, ⟨rfl, rfl, rfl, by simp, fun k _ hk => setRow_other w g k _ (fun e => hk (by simp [Value.ownBlock, e]))⟩, fun k hk => .inl hk⟩
        · simp only [List.size_toArray, List.length_append, List.length_take, List.length_drop, Array.length_toList]
          omega
        · rw [htake, ← hlen]
          exact List.take_left
      · have holds : ∀ j u, xs[j]? = some u → w.cell? ((⟨g, 0, none⟩ : Addr).add j) = some u := hown.cells (g := g) rfl
        have hr := run_append_grow (P := P) w t ty e i z ht hi hz ⟨g, 0, none⟩ n cap xs hown.1 holds a m c news hl hnews (by omega) (by omega) (growslice_fits (by omega) hbytes)
        have hgr := grown cap (by omega) (Value.ownBlock (.slice (some ⟨g, 0, none⟩) n cap))
        exact ⟨_, _, hr, hgr.1, hgr.2, fun k hk => .inr (by simp [Value.ownBlock] at hk; simp; omega)⟩
/-- Bytes. -/
def BOwn (w : World) (v : Value) (l : List UInt8) : Prop := GOwn w 5 1 v l.length (l.map bc)
theorem BOwn.reads {w : World} {v : Value} {l : List UInt8} (h : BOwn w v l) : Reads w v l := gown_reads h
end Go.Proofs.YthicmbjiblbcmaaGreat

/- TopTree: a tree of runs in memory. -/
namespace Go.Proofs.YthicmbjiblbcmaaGreat
open Go.RowKit

theorem wp_app_runT {w w' : World} {o : Oper} {a : Act} {K : Act → World → Prop} {Q : Exit → Act → World → Prop} (s x : Operand) (t ty : TypeId) (ho : o.op = .call { callee := .builtin .append, args := #[s, x], argTypes := #[t, t] }) (hty : o.type = ty) (v vx v' : Value) (hs : a.eval s = v) (hx : a.eval x = vx)
    (hrun : (Builtin.append_ #[t, t] ty #[v, vx]).run Tryz.prog w = .ok v' w') (h : K (a.put o.dst v') w') : o.wp Tryz.prog a w K Q := by
  subst hty
  unfold Oper.wp
  simp [execOp, ho, resolve, invoke, builtin, hs, hx, hrun, Result.andThen]
  exact h
theorem wpList_app_runT {w w' : World} {ops : Array Oper} {rest : List Oper} {o : Oper} {a : Act} {Q : Exit → Act → World → Prop} (hgd : o.guard = none) (s x : Operand) (t ty : TypeId) (ho : o.op = .call { callee := .builtin .append, args := #[s, x], argTypes := #[t, t] }) (hty : o.type = ty) (v vx v' : Value) (hs : a.eval s = v) (hx : a.eval x = vx)
    (hrun : (Builtin.append_ #[t, t] ty #[v, vx]).run Tryz.prog w = .ok v' w') (h : wpList Tryz.prog ops Q rest (a.put o.dst v') w') : wpList Tryz.prog ops Q (o :: rest) a w :=
  wpList_plain hgd fun _ hK => wp_app_runT s x t ty ho hty v vx v' hs hx hrun (hK _ _ h)
theorem run_oneT {w : World} (t ty e : TypeId) (i : TypeInfo) (z : Value) (size bytes : Nat) (ht : Tryz.prog.underlying t = some (.slice e)) (hi : Tryz.prog.info? e = some i) (hz : i.zero = some z) (hsize : i.size = size) (hby : i.bytes = bytes) (hzs : z.cells.size = size)
    (v : Value) (n : Nat) (xs : List Value) (h : GOwn w e size v n xs) (hk : ∀ k, v.ownBlock = some k → k < w.heap.size) (ys : List Value) (hy : ys.length = size) (h1 : ∀ u ∈ ys, u.oneCell' = true) (hn : n < 1000000) (hb : bytes ≤ 1000) :
    ∃ v' w', (Builtin.append_ #[t, t] ty #[v, .slice (some ⟨w.heap.size, 0, none⟩) 1 1]).run Tryz.prog (w.alloc (.cells ys.toArray e)) = .ok v' w' ∧ GOwn w' e size v' (n + 1) (xs ++ ys) ∧ (w.alloc (.cells ys.toArray e)).grownBy w' v.ownBlock ∧ (∀ k, v'.ownBlock = some k → v.ownBlock = some k ∨ (w.heap.size ≤ k ∧ k < w'.heap.size)) := by
  have h0 : GOwn (w.alloc (.cells ys.toArray e)) e size v n xs := GOwn.keep h fun k hq => Below.heap_alloc _ _ _ (hk k hq)
  have hb4 := heap_alloc_new w (.cells ys.toArray e)
  have hsr : GSrc (w.alloc (.cells ys.toArray e)) size (.slice (some ⟨w.heap.size, 0, none⟩) 1 1) 1 ys := by
    refine ⟨by rw [hy]; simp, .inr ⟨_, _, rfl, fun k u hq => ?_⟩⟩
    have ea : (⟨w.heap.size, 0, none⟩ : Addr).add k = ⟨w.heap.size, k, none⟩ := by simp [Addr.add]; omega
    rw [ea]
    simp only [World.cell?, hb4]
    simpa using hq
  obtain ⟨v', w', g1, g2, g3, g4⟩ := run_gapp (P := Tryz.prog) t ty e i z size bytes ht hi hz hsize hby hzs v n xs h0 _ 1 ys hsr h1 (by simp only [maxLen]; omega) (Nat.le_trans (Nat.mul_le_mul (show n + 1 ≤ 1000000 by omega) hb) (by decide))
  refine ⟨v', w', g1, g2, g3, fun k hq => ?_⟩
  rcases g4 k hq with h | h
  · exact .inl h
  · exact .inr ⟨by have := h.1; simp at this; omega, h.2⟩
theorem tyT_ne {w : World} {a b : Nat} {x y : Array Value} {T U : TypeId} {f f' : Nat × Nat} (ha : w.heap[a]? = some (.cells x T f)) (hb : w.heap[b]? = some (.cells y U f')) (h : T ≠ U) : a ≠ b := by
  intro e
  subst e
  rw [ha] at hb
  simp only [Option.some.injEq, Obj.cells.injEq] at hb
  exact h hb.2.1
theorem own_gown {w : World} {base : Nat} {e : TypeId} {size : Nat} {v : Value} {n : Nat} {xs : List Value} (h : w.ownsRow base e size v n xs) : GOwn w e size v n xs := by
  refine ⟨h.1, ?_⟩
  rcases h.2 with h2 | ⟨g, cap, cur, rfl, hg, hw, hc, hm, hs, ht⟩
  · exact .inl h2
  · exact .inr ⟨g, cap, cur, rfl, hw, hc, hm, Nat.le_of_eq hs.symm, ht⟩
theorem gown_nreads {T : TypeId} {w : World} {v : Value} {xs : List Rn} (h : GOwn w T 4 v xs.length (xs.flatMap r4)) (hk : ∀ k, v.ownBlock = some k → k < w.heap.size) (hr : ∀ r ∈ xs, RnOk r) : NReads w v xs := by
  rcases h.2 with ⟨h1, h2⟩ | ⟨g, cap, cur, hv, hw, hc, hm, _⟩
  · have : xs = [] := List.length_eq_zero_iff.1 h2
    subst this
    rw [h1]; exact NReads.nil _
  · refine ⟨_, cap, hv, hc, hm, hr, .inr ⟨g, 0, rfl, hk g (by rw [hv]; rfl), fun j hj i hi => ?_⟩⟩
    have e1 := flat4 xs j i hj hi
    rw [List.getElem?_eq_getElem (show i < (r4 xs[j]).length from hi)] at e1
    have := GOwn.cells h (g := g) (by rw [hv]; rfl) (4 * j + i) _ e1
    have ea : (⟨g, 0, none⟩ : Addr).add (4 * j + i) = ⟨g, 0 + j * 4 + i, none⟩ := by
      unfold Addr.add
      by_cases hz : 4 * j + i = 0
      · rw [if_pos hz]; exact congrArg (fun x => (⟨g, x, none⟩ : Addr)) (show 0 = 0 + j * 4 + i by omega)
      · rw [if_neg hz]; exact congrArg (fun x => (⟨g, x, none⟩ : Addr)) (show 0 + (4 * j + i) = 0 + j * 4 + i by omega)
    rwa [ea] at this
theorem EReads.heap {w W : World} {v : Value} {L : List En} (h : EReads w v L) (hs : w.heap.size ≤ W.heap.size) (hk : ∀ b, b < w.heap.size → W.heap[b]? = w.heap[b]?) : EReads W v L := by
  have hb : Below w.heap.size w { w with heap := W.heap } := ⟨rfl, rfl, rfl, hs, hk⟩
  have h2 : EReads { w with heap := W.heap } v L := h.below hb
  exact h2
/-- Entries that stand whatever is done to the blocks X. -/
def EKeep (w : World) (X : Nat → Prop) (v : Value) (L : List En) : Prop := ∀ W : World, w.heap.size ≤ W.heap.size → (∀ b, b < w.heap.size → ¬ X b → W.heap[b]? = w.heap[b]?) → EReads W v L
theorem EKeep.reads {w : World} {X : Nat → Prop} {v : Value} {L : List En} (h : EKeep w X v L) : EReads w v L := h w (Nat.le_refl _) fun _ _ _ => rfl
theorem EKeep.next {w W : World} {X Y : Nat → Prop} {v : Value} {L : List En} (h : EKeep w X v L) (hs : w.heap.size ≤ W.heap.size) (hk : ∀ b, b < w.heap.size → ¬ X b → W.heap[b]? = w.heap[b]?) (hX : ∀ b, b < w.heap.size → Y b → X b) : EKeep W Y v L := fun Z h1 h2 =>
  h Z (Nat.le_trans hs h1) fun b hb hn => (h2 b (Nat.lt_of_lt_of_le hb hs) (fun hy => hn (hX b hb hy))).trans (hk b hb hn)
theorem EKeep.old {w W : World} {X : Nat → Prop} {v : Value} {L : List En} (h : EReads w v L) (hs : w.heap.size ≤ W.heap.size) (hk : ∀ b, b < w.heap.size → W.heap[b]? = w.heap[b]?) (hX : ∀ b, X b → w.heap.size ≤ b) : EKeep W X v L := fun _ h1 h2 =>
  h.heap (Nat.le_trans hs h1) fun b hb => (h2 b (Nat.lt_of_lt_of_le hb hs) (fun hy => Nat.not_lt.2 (hX b hy) hb)).trans (hk b hb)
theorem row_keepT {w W : World} {base : Nat} {e : TypeId} {size : Nat} {v : Value} {n : Nat} {xs : List Value} (h : w.ownsRow base e size v n xs) (hk : ∀ b, base ≤ b → b < w.heap.size → W.heap[b]? = w.heap[b]?) : W.ownsRow base e size v n xs := by
  refine ⟨h.1, ?_⟩
  rcases h.2 with h2 | ⟨g, cap, cur, rfl, hg, hw, r⟩
  · exact .inl h2
  · exact .inr ⟨g, cap, cur, rfl, hg, (hk g hg (Array.getElem?_eq_some_iff.1 hw).1).trans hw, r⟩
theorem EOwn.ekeep {w : World} {X : Nat → Prop} {base : Nat} {v : Value} {xs : List Ev} (h : EOwn w base v xs) (hc : ∀ x ∈ xs, CnOk x.a) (hX : ∀ b, X b → b < base) : EKeep w X v (xs.map evE) := fun W _ hk => by
  have hk2 : ∀ b, base ≤ b → b < w.heap.size → W.heap[b]? = w.heap[b]? := fun b h1 h2 => hk b h2 (fun q => by have := hX b q; omega)
  exact EOwn.reads (w := W) (base := base) ⟨row_keepT h.1 hk2, fun x hx => row_keepT (h.2 x hx) hk2⟩ hc
/-- The blocks that a tree turns. -/
def Xs (p : Nat) (rv gv : Value) (b : Nat) : Prop := b = p ∨ rv.ownBlock = some b ∨ gv.ownBlock = some b
/-- A tree in memory. -/
structure TrAt (R : Rl) (wm : Int) (base p : Nat) (w : World) (rv gv : Value) (L : List Rn) (GV : List (Value × List En)) : Prop where
  bx : w.heap[p]? = some (.cells #[.slice R.a R.len R.cap, .int .i64 R.kp, .int .i64 wm, rv, gv] 29)
  rn : GOwn w 47 4 rv L.length (L.flatMap r4)
  rk : ∀ r ∈ L, RnOk r
  gn : GOwn w 31 1 gv GV.length (GV.map Prod.fst)
  ge : ∀ x ∈ GV, EKeep w (Xs p rv gv) x.1 x.2
  lo : ∀ b, Xs p rv gv b → base ≤ b ∧ b < w.heap.size
theorem TrAt.below {R : Rl} {wm : Int} {base p : Nat} {w w' : World} {rv gv : Value} {L : List Rn} {GV : List (Value × List En)} (h : TrAt R wm base p w rv gv L GV) (hb : Below w.heap.size w w') : TrAt R wm base p w' rv gv L GV :=
  ⟨(hb.block p (h.lo p (.inl rfl)).2).trans h.bx, h.rn.keep fun k hk => hb.block k (h.lo k (.inr (.inl hk))).2, h.rk, h.gn.keep fun k hk => hb.block k (h.lo k (.inr (.inr hk))).2,
    fun x hx => (h.ge x hx).next hb.size (fun b hb' _ => hb.block b hb') (fun _ _ q => q), fun b hb' => ⟨(h.lo b hb').1, Nat.lt_of_lt_of_le (h.lo b hb').2 hb.size⟩⟩
theorem TrAt.nreads {R : Rl} {wm : Int} {base p : Nat} {w : World} {rv gv : Value} {L : List Rn} {GV : List (Value × List En)} (h : TrAt R wm base p w rv gv L GV) : NReads w rv L :=
  gown_nreads h.rn (fun k hk => (h.lo k (.inr (.inl hk))).2) h.rk
theorem TrAt.rreads {R : Rl} {wm : Int} {base p : Nat} {w : World} {rv gv : Value} {L : List Rn} {GV : List (Value × List En)} (h : TrAt R wm base p w rv gv L GV) : RReads w gv (GV.map Prod.snd) := by
  have hk : ∀ k, gv.ownBlock = some k → k < w.heap.size := fun k hk => (h.lo k (.inr (.inr hk))).2
  rcases h.gn.2 with ⟨e1, e2⟩ | ⟨g, cap, cur, hv, hw, hc, hm, _⟩
  · have : GV = [] := List.length_eq_zero_iff.1 e2
    subst this
    exact ⟨none, 0, e1, by simp, by simp, .inl rfl⟩
  · refine ⟨some ⟨g, 0, none⟩, cap, by rw [hv, List.length_map], by simpa using hc, hm, ?_⟩
    rcases Nat.eq_zero_or_pos GV.length with h0 | h0
    · exact .inl (by rw [List.length_eq_zero_iff.1 h0]; rfl)
    · refine .inr ⟨g, 0, rfl, hk g (by rw [hv]; rfl), fun j hj => ⟨(GV[j]'(by simpa using hj)).1, ?_, ?_⟩⟩
      · have hj' : j < GV.length := by simpa using hj
        have := GOwn.cells h.gn (g := g) (by rw [hv]; rfl) j GV[j].1 (by rw [List.getElem?_map, List.getElem?_eq_getElem hj']; rfl)
        have ea : (⟨g, 0, none⟩ : Addr).add j = ⟨g, 0 + j, none⟩ := by simp [Addr.add]; omega
        rwa [ea] at this
      · have hj' : j < GV.length := by simpa using hj
        rw [List.getElem_map]
        exact (h.ge GV[j] (List.getElem_mem hj')).reads
/-- What stands when a tree has turned. -/
theorem TrAt.turn {R : Rl} {wm : Int} {base p : Nat} {w W : World} {rv gv rv' gv' : Value} {L L' : List Rn} {GV GV' : List (Value × List En)} (h : TrAt R wm base p w rv gv L GV) (hs : w.heap.size ≤ W.heap.size) (hk : ∀ b, b < w.heap.size → ¬ Xs p rv gv b → W.heap[b]? = w.heap[b]?)
    (hX : ∀ b, b < w.heap.size → Xs p rv' gv' b → Xs p rv gv b) (hbx : W.heap[p]? = some (.cells #[.slice R.a R.len R.cap, .int .i64 R.kp, .int .i64 wm, rv', gv'] 29)) (hrn : GOwn W 47 4 rv' L'.length (L'.flatMap r4)) (hrk : ∀ r ∈ L', RnOk r)
    (hgn : GOwn W 31 1 gv' GV'.length (GV'.map Prod.fst)) (hGV : ∀ x ∈ GV', x ∈ GV ∨ EKeep w (Xs p rv gv) x.1 x.2) (hlo : ∀ b, Xs p rv' gv' b → base ≤ b ∧ b < W.heap.size) : TrAt R wm base p W rv' gv' L' GV' :=
  ⟨hbx, hrn, hrk, hgn, fun x hx => by
    rcases hGV x hx with q | q
    · exact (h.ge x q).next hs hk hX
    · exact q.next hs hk hX, hlo⟩
theorem infoTr : (Tryz.prog.info? 31).map (fun i => (i.zero, i.size, i.bytes)) = some (some (.slice none 0 0), 1, 24) := by kernel_rfl
theorem infoRn : (Tryz.prog.info? 47).map (fun i => (i.zero, i.size, i.bytes)) = some (some (.agg #[.int .i64 0, .int .i64 0, .int .i64 0, .bool false]), 4, 32) := by kernel_rfl
theorem setCell_sizeT (w : World) (a : Addr) (v : Value) : (w.setCell a v).heap.size = w.heap.size := by simp [World.setCell]
/-- One more row, put into the box. -/
theorem TrAt.row {R : Rl} {wm : Int} {base p : Nat} {w : World} {rv gv : Value} {L : List Rn} {GV : List (Value × List En)} (h : TrAt R wm base p w rv gv L GV) (hb : base ≤ w.heap.size) {lv : Value} {l : List En} (hl : EKeep w (Xs p rv gv) lv l) (h1 : lv.oneCell' = true) (hn : GV.length < 1000000) :
    ∃ v' w', (Builtin.append_ #[25, 25] 25 #[gv, .slice (some ⟨w.heap.size, 0, none⟩) 1 1]).run Tryz.prog (w.alloc (.cells #[lv] 31)) = .ok v' w' ∧ (∃ a c, v' = .slice a (GV.length + 1) c) ∧ w.heap.size ≤ w'.heap.size ∧ w'.heap[p]? = w.heap[p]? ∧
      (∀ b, b < w.heap.size → gv.ownBlock ≠ some b → w'.heap[b]? = w.heap[b]?) ∧ Below base w w' ∧ (∀ k, v'.ownBlock = some k → gv.ownBlock = some k ∨ (w.heap.size ≤ k ∧ k < w'.heap.size)) ∧
      TrAt R wm base p (w'.setCell ⟨p, 4, none⟩ v') rv v' L (GV ++ [(lv, l)]) := by
  obtain ⟨i0, hi, hz0, hz1, hz2⟩ := info_parts infoTr
  obtain ⟨v', w', g1, g2, g3, g4⟩ := run_oneT (w := w) 25 25 31 i0 _ 1 24 Tryz.underlying25 hi hz0 hz1 hz2 rfl gv GV.length _ h.gn (fun k hk => (h.lo k (.inr (.inr hk))).2) [lv] rfl (by intro u hu; rw [List.mem_singleton.1 hu]; exact h1) hn (by decide)
  have hsz := g3.size
  rw [World.size_alloc] at hsz
  have hkeep : ∀ b, b < w.heap.size → gv.ownBlock ≠ some b → w'.heap[b]? = w.heap[b]? := fun b hb hne =>
    (g3.block b (by rw [World.size_alloc]; omega) (fun e => hne e.symm)).trans (Below.heap_alloc _ _ _ hb)
  have hpl := (h.lo p (.inl rfl)).2
  have hpg : gv.ownBlock ≠ some p := fun e => by
    obtain ⟨cur, hc⟩ := h.gn.block e
    exact tyT_ne hc h.bx (by decide) rfl
  have hbp := hkeep p hpl hpg
  obtain ⟨va, vc, hv', -⟩ := g2.form
  refine ⟨v', w', g1, ⟨va, vc, hv'⟩, by omega, hbp, hkeep, ((Below.refl base w).alloc hb _).grown g3 (by rw [World.size_alloc]; omega) (fun k q => (h.lo k (.inr (.inr q))).1), g4, ?_⟩
  have hset : ∀ b, b ≠ p → (w'.setCell ⟨p, 4, none⟩ v').heap[b]? = w'.heap[b]? := fun b hne => Below.heap_setCell _ _ _ _ hne
  have hv2 : ∀ k, v'.ownBlock = some k → k ≠ p := fun k hk => by
    obtain ⟨cur, hc⟩ := g2.block hk
    exact tyT_ne hc (hbp.trans h.bx) (by decide)
  refine h.turn (by rw [setCell_sizeT]; omega) (fun b hb2 hx => ?_) (fun b hb2 hx => ?_) ?_ (h.rn.keep fun k hk => ?_) h.rk ?_ (fun x hx => ?_) (fun b hx => ?_)
  · rw [hset b (fun e => hx (.inl e)), hkeep b hb2 (fun e => hx (.inr (.inr e)))]
  · rcases hx with q | q | q
    · exact .inl q
    · exact .inr (.inl q)
    · rcases g4 b q with z | z
      · exact .inr (.inr z)
      · omega
  · have := heap_setCell_same w' p 4 _ _ v' (hbp.trans h.bx)
    simpa using this
  · have hkl := (h.lo k (.inr (.inl hk))).2
    obtain ⟨cur, hc⟩ := h.rn.block hk
    have hne : k ≠ p := tyT_ne hc h.bx (by decide)
    rw [hset k hne, hkeep k hkl (fun e => by
      obtain ⟨cur2, hc2⟩ := h.gn.block e
      exact tyT_ne hc hc2 (by decide) rfl)]
  · rw [List.length_append, List.map_append]
    exact GOwn.keep g2 fun k hk => hset k (hv2 k hk)
  · rcases List.mem_append.1 hx with q | q
    · exact .inl q
    · rw [List.mem_singleton.1 q]
      exact .inr hl
  · rw [setCell_sizeT]
    rcases hx with q | q | q
    · have := h.lo b (.inl q); exact ⟨this.1, by omega⟩
    · have := h.lo b (.inr (.inl q)); exact ⟨this.1, by omega⟩
    · rcases g4 b q with z | z
      · have := h.lo b (.inr (.inr z)); exact ⟨this.1, by omega⟩
      · exact ⟨by omega, z.2⟩
/-- One more run, put into the box. -/
theorem TrAt.run {R : Rl} {wm : Int} {base p : Nat} {w : World} {rv gv : Value} {L : List Rn} {GV : List (Value × List En)} (h : TrAt R wm base p w rv gv L GV) (hb : base ≤ w.heap.size) {r : Rn} (hr : RnOk r) (hn : L.length < 1000000) :
    ∃ v' w', (Builtin.append_ #[27, 27] 27 #[rv, .slice (some ⟨w.heap.size, 0, none⟩) 1 1]).run Tryz.prog (w.alloc (.cells (r4 r).toArray 47)) = .ok v' w' ∧ (∃ a c, v' = .slice a (L.length + 1) c) ∧ w.heap.size ≤ w'.heap.size ∧ w'.heap[p]? = w.heap[p]? ∧
      (∀ b, b < w.heap.size → rv.ownBlock ≠ some b → w'.heap[b]? = w.heap[b]?) ∧ Below base w w' ∧
      TrAt R wm base p (w'.setCell ⟨p, 3, none⟩ v') v' gv (L ++ [r]) GV := by
  obtain ⟨i0, hi, hz0, hz1, hz2⟩ := info_parts infoRn
  obtain ⟨v', w', g1, g2, g3, g4⟩ := run_oneT (w := w) 27 27 47 i0 _ 4 32 Tryz.underlying27 hi hz0 hz1 hz2 rfl rv L.length _ h.rn (fun k hk => (h.lo k (.inr (.inl hk))).2) (r4 r) rfl (by
    intro u hu
    simp only [r4, List.mem_cons, List.not_mem_nil, or_false] at hu
    rcases hu with rfl | rfl | rfl | rfl <;> rfl) hn (by decide)
  have hsz := g3.size
  rw [World.size_alloc] at hsz
  have hkeep : ∀ b, b < w.heap.size → rv.ownBlock ≠ some b → w'.heap[b]? = w.heap[b]? := fun b hb hne =>
    (g3.block b (by rw [World.size_alloc]; omega) (fun e => hne e.symm)).trans (Below.heap_alloc _ _ _ hb)
  have hpl := (h.lo p (.inl rfl)).2
  have hpg : rv.ownBlock ≠ some p := fun e => by
    obtain ⟨cur, hc⟩ := h.rn.block e
    exact tyT_ne hc h.bx (by decide) rfl
  have hbp := hkeep p hpl hpg
  obtain ⟨va, vc, hv', -⟩ := g2.form
  refine ⟨v', w', g1, ⟨va, vc, hv'⟩, by omega, hbp, hkeep, ((Below.refl base w).alloc hb _).grown g3 (by rw [World.size_alloc]; omega) (fun k q => (h.lo k (.inr (.inl q))).1), ?_⟩
  have hset : ∀ b, b ≠ p → (w'.setCell ⟨p, 3, none⟩ v').heap[b]? = w'.heap[b]? := fun b hne => Below.heap_setCell _ _ _ _ hne
  have hv2 : ∀ k, v'.ownBlock = some k → k ≠ p := fun k hk => by
    obtain ⟨cur, hc⟩ := g2.block hk
    exact tyT_ne hc (hbp.trans h.bx) (by decide)
  refine h.turn (by rw [setCell_sizeT]; omega) (fun b hb2 hx => ?_) (fun b hb2 hx => ?_) ?_ ?_ (fun x hx => ?_) (h.gn.keep fun k hk => ?_) (fun x hx => .inl hx) (fun b hx => ?_)
  · rw [hset b (fun e => hx (.inl e)), hkeep b hb2 (fun e => hx (.inr (.inl e)))]
  · rcases hx with q | q | q
    · exact .inl q
    · rcases g4 b q with z | z
      · exact .inr (.inl z)
      · omega
    · exact .inr (.inr q)
  · have := heap_setCell_same w' p 3 _ _ v' (hbp.trans h.bx)
    simpa using this
  · rw [List.length_append, List.flatMap_append]
    simpa using GOwn.keep g2 fun k hk => hset k (hv2 k hk)
  · rcases List.mem_append.1 hx with q | q
    · exact h.rk x q
    · rw [List.mem_singleton.1 q]
      exact hr
  · have hkl := (h.lo k (.inr (.inr hk))).2
    obtain ⟨cur, hc⟩ := h.gn.block hk
    have hne : k ≠ p := tyT_ne hc h.bx (by decide)
    rw [hset k hne, hkeep k hkl (fun e => by
      obtain ⟨cur2, hc2⟩ := h.rn.block e
      exact tyT_ne hc hc2 (by decide) rfl)]
  · rw [setCell_sizeT]
    rcases hx with q | q | q
    · have := h.lo b (.inl q); exact ⟨this.1, by omega⟩
    · rcases g4 b q with z | z
      · have := h.lo b (.inr (.inl z)); exact ⟨this.1, by omega⟩
      · exact ⟨by omega, z.2⟩
    · have := h.lo b (.inr (.inr q)); exact ⟨this.1, by omega⟩
/-- A task is done: the row of its file, and the runs that After tells. -/
theorem TrAt.task {R : Rl} {wm : Int} {base p : Nat} {w5 w6 w8 : World} {rv gv v' v8 lv : Value} {L M : List Rn} {GV : List (Value × List En)} {l : List En} (h : TrAt R wm base p w5 rv gv L GV) (hb : base ≤ w5.heap.size) (hl : EKeep w5 (Xs p rv gv) lv l) (h6 : Below w5.heap.size w5 w6) (hM : NOwn 47 w6 w5.heap.size v' M)
    (hs8 : w6.heap.size ≤ w8.heap.size) (hk8 : ∀ b, b < w6.heap.size → gv.ownBlock ≠ some b → w8.heap[b]? = w6.heap[b]?) (hv8 : ∀ k, v8.ownBlock = some k → gv.ownBlock = some k ∨ (w6.heap.size ≤ k ∧ k < w8.heap.size))
    (hZ : TrAt R wm base p (w8.setCell ⟨p, 4, none⟩ v8) rv v8 L (GV ++ [(lv, l)])) : TrAt R wm base p ((w8.setCell ⟨p, 4, none⟩ v8).setCell ⟨p, 3, none⟩ v') v' v8 M (GV ++ [(lv, l)]) := by
  have hset : ∀ b, b ≠ p → ((w8.setCell ⟨p, 4, none⟩ v8).setCell ⟨p, 3, none⟩ v').heap[b]? = w8.heap[b]? := fun b hne => (Below.heap_setCell _ _ _ _ hne).trans (Below.heap_setCell _ _ _ _ hne)
  have hv2 : ∀ k, v'.ownBlock = some k → w5.heap.size ≤ k ∧ k < w6.heap.size := fun k hk => World.ownsRow.lt hM.1 k hk
  have h6s := h6.size
  refine h.turn (by rw [setCell_sizeT, setCell_sizeT]; omega) (fun b hb2 hx => ?_) (fun b hb2 hx => ?_) ?_ ((own_gown hM.1).keep fun k hk => ?_) hM.2 (hZ.gn.keep fun k hk => ?_) (fun x hx => ?_) (fun b hx => ?_)
  · rw [hset b (fun e => hx (.inl e)), hk8 b (by omega) (fun e => hx (.inr (.inr e))), h6.block b hb2]
  · rcases hx with q | q | q
    · exact .inl q
    · have := hv2 b q; omega
    · rcases hv8 b q with z | z
      · exact .inr (.inr z)
      · omega
  · have := heap_setCell_same (w8.setCell ⟨p, 4, none⟩ v8) p 3 _ _ v' hZ.bx
    simpa using this
  · obtain ⟨cur, hc⟩ := (own_gown hM.1).block hk
    have h6x := h.below h6
    have hne : k ≠ p := tyT_ne hc h6x.bx (by decide)
    rw [hset k hne, hk8 k (hv2 k hk).2 (fun e => by
      obtain ⟨cur2, hc2⟩ := h6x.gn.block e
      exact tyT_ne hc hc2 (by decide) rfl)]
  · obtain ⟨cur, hc⟩ := hZ.gn.block hk
    exact Below.heap_setCell _ _ _ _ (tyT_ne hc hZ.bx (by decide))
  · rcases List.mem_append.1 hx with q | q
    · exact .inl q
    · rw [List.mem_singleton.1 q]
      exact .inr hl
  · rw [setCell_sizeT, setCell_sizeT]
    rcases hx with q | q | q
    · have := h.lo b (.inl q); exact ⟨this.1, by omega⟩
    · have := hv2 b q; exact ⟨by omega, by omega⟩
    · rcases hv8 b q with z | z
      · have := h.lo b (.inr (.inr z)); exact ⟨this.1, by omega⟩
      · exact ⟨by omega, z.2⟩
/-- .. and what it leaves. -/
theorem keep_task {p : Nat} {w5 w6 w8 : World} {rv gv v' v8 : Value} {M : List Rn} (h6 : Below w5.heap.size w5 w6) (hM : NOwn 47 w6 w5.heap.size v' M)
    (hs8 : w6.heap.size ≤ w8.heap.size) (hk8 : ∀ b, b < w6.heap.size → gv.ownBlock ≠ some b → w8.heap[b]? = w6.heap[b]?) (hv8 : ∀ k, v8.ownBlock = some k → gv.ownBlock = some k ∨ (w6.heap.size ≤ k ∧ k < w8.heap.size)) {v : Value} {K : List En} (hK : EKeep w5 (Xs p rv gv) v K) :
    EKeep ((w8.setCell ⟨p, 4, none⟩ v8).setCell ⟨p, 3, none⟩ v') (Xs p v' v8) v K := by
  have hset : ∀ b, b ≠ p → ((w8.setCell ⟨p, 4, none⟩ v8).setCell ⟨p, 3, none⟩ v').heap[b]? = w8.heap[b]? := fun b hne => (Below.heap_setCell _ _ _ _ hne).trans (Below.heap_setCell _ _ _ _ hne)
  have hv2 : ∀ k, v'.ownBlock = some k → w5.heap.size ≤ k ∧ k < w6.heap.size := fun k hk => World.ownsRow.lt hM.1 k hk
  have h6s := h6.size
  refine hK.next (by rw [setCell_sizeT, setCell_sizeT]; omega) (fun b hb2 hx => ?_) (fun b hb2 hx => ?_)
  · rw [hset b (fun e => hx (.inl e)), hk8 b (by omega) (fun e => hx (.inr (.inr e))), h6.block b hb2]
  · rcases hx with q | q | q
    · exact .inl q
    · have := hv2 b q; omega
    · rcases hv8 b q with z | z
      · exact .inr (.inr z)
      · omega
end Go.Proofs.YthicmbjiblbcmaaGreat
