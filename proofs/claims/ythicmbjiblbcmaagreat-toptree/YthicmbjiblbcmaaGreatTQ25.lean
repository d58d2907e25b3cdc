/- FL8, joined. -/
import Derived.Test.YthicmbjiblbcmaaGreatTQ21
import Derived.Test.YthicmbjiblbcmaaGreatTQ34
import Derived.Test.YthicmbjiblbcmaaGreatTQ24
/- What the loop of fold.folded keeps. -/
namespace Go.Proofs.YthicmbjiblbcmaaGreat
open Go.RowKit

theorem ins_at {x : En} : ∀ {A B : List En}, (∀ y ∈ A, ltK y.1 x.1) → (∀ y ∈ B, ltK x.1 y.1) → ins x (A ++ B) = A ++ x :: B
  | [], [], _, _ => rfl
  | [], y :: B, _, h => ins_lt (h y (List.mem_cons_self ..))
  | y :: A, B, h, h2 => by
    show ins x (y :: (A ++ B)) = y :: (A ++ x :: B)
    rw [ins_gt (h y (List.mem_cons_self ..)), ins_at (fun z hz => h z (List.mem_cons_of_mem _ hz)) h2]
theorem ins_mid {x l : En} (e : x.1 = l.1) : ∀ {A B : List En}, (∀ y ∈ A, ltK y.1 x.1) → ins x (A ++ l :: B) = A ++ (l.1, mrg x.2 l.2) :: B
  | [], B, _ => ins_eq e
  | y :: A, B, h => by
    show ins x (y :: (A ++ l :: B)) = y :: (A ++ _)
    rw [ins_gt (h y (List.mem_cons_self ..)), ins_mid e (fun z hz => h z (List.mem_cons_of_mem _ hz))]
theorem ItOk.gd {R : Rl} {x : It} (h : ItOk R x) : Gd x.a := ⟨h.c, h.g, fun h2 => absurd h2 h.n⟩
theorem its_gd {R : Rl} {its : List It} (h : ∀ x ∈ its, ItOk R x) : GdE (its.map itE) := fun y hy => by
  obtain ⟨x, hx, rfl⟩ := List.mem_map.1 hy
  exact (h x hx).gd
/-- One more item. -/
theorem foldF_snoc {R : Rl} {wm : Int} {M : List En} {x : En} (hg : GdE M) (hx : Gd x.2) : foldF R wm (M ++ [x]) = match fk R wm x.1 with | none => foldF R wm M | some k => ins (k, x.2) (foldF R wm M) := by
  unfold foldF
  rw [fm_app]
  have e : fm (fk R wm) [x] = match fk R wm x.1 with | none => [] | some k => [(k, x.2)] := by rw [fm_cons]; rfl
  rw [e]
  cases fk R wm x.1 with
  | none => simp
  | some k =>
    have hp : (fm (fk R wm) M ++ [(k, x.2)]).Perm ((k, x.2) :: fm (fk R wm) M) := List.perm_append_comm (l₁ := fm (fk R wm) M) (l₂ := [(k, x.2)])
    show can (fm (fk R wm) M ++ [(k, x.2)]) = ins (k, x.2) (can (fm (fk R wm) M))
    rw [can_perm hp (GdE.app.2 ⟨fm_gd _ hg, fun y hy => by simp at hy; rw [hy]; exact hx⟩)]
    rfl
theorem fk_it {R : Rl} {wm : Int} {x : It} (h : ItOk R x) : fk R wm (itE x).1 = if goneB R wm x.f then none else some (kb x.D (flq R wm x.f x.g) ((stq R wm x.f x.g : Nat) : Int)) := by
  have h1 := rdF_kb x.D x.f (x.g : Int) h.r
  have h2 := fk_of (R := R) (w := wm) h1
  rw [Int.toNat_natCast] at h2
  exact h2
/-- Entries of one's own that are what came of the first items. -/
structure FoI (R : Rl) (wm : Int) (its : List It) (w1 : World) (k : Nat) (xs : List Ev) (v : Value) (wr : World) : Prop where
  r : wr.ownsRow w1.heap.size 56 7 v xs.length (xs.flatMap c7)
  ks : ∀ x ∈ xs, Own wr w1.heap.size x.kv x.k
  m : xs.map evE = foldF R wm ((its.take k).map itE)
  c : ∀ x ∈ xs, CnOk x.a
  b : Below w1.heap.size w1 wr
theorem FoI.below {R : Rl} {wm : Int} {its : List It} {w1 : World} {k : Nat} {xs : List Ev} {v : Value} {wr W : World} (h : FoI R wm its w1 k xs v wr) (hb : Below wr.heap.size wr W) : FoI R wm its w1 k xs v W :=
  ⟨row_below h.r hb, fun x hx => (h.ks x hx).below hb, h.m, h.c, h.b.trans (hb.mono h.b.size)⟩
theorem FoI.start (R : Rl) (wm : Int) (its : List It) (w1 : World) : FoI R wm its w1 0 [] (.slice none 0 0) w1 := ⟨World.ownsRow_nil _ _ _ _, fun x hx => (by cases hx), rfl, fun x hx => (by cases hx), Below.refl _ _⟩
theorem FoI.srt {R : Rl} {wm : Int} {its : List It} {w1 : World} {k : Nat} {xs : List Ev} {v : Value} {wr : World} (h : FoI R wm its w1 k xs v wr) : SrtE (xs.map evE) := by rw [h.m]; exact foldF_srt _ _ _
theorem own_one {w : World} {base : Nat} {v : Value} {l : List UInt8} (h : Own w base v l) : v.oneCell' = true := by
  obtain ⟨a, c, rfl, _⟩ := h.form
  rfl
theorem take_it {its : List It} {k : Nat} (hk : k < its.length) : (its.take (k + 1)).map itE = (its.take k).map itE ++ [itE its[k]] := by
  rw [List.take_add_one, List.getElem?_eq_getElem hk, List.map_append]; rfl
/-- What is gone is passed by. -/
theorem FoI.pass {R : Rl} {wm : Int} {its : List It} {w1 : World} {k : Nat} {xs : List Ev} {v : Value} {wr : World} (h : FoI R wm its w1 k xs v wr) (hk : k < its.length) (hok : ∀ x ∈ its, ItOk R x) (hg : goneB R wm its[k].f = true) : FoI R wm its w1 (k + 1) xs v wr := by
  refine ⟨h.r, h.ks, ?_, h.c, h.b⟩
  have hx := hok its[k] (List.getElem_mem hk)
  rw [take_it hk, foldF_snoc (its_gd (fun x hx => hok x (List.mem_of_mem_take hx))) hx.gd, fk_it hx, if_pos hg, h.m]
theorem fold_next {R : Rl} {wm : Int} {its : List It} {k : Nat} (hk : k < its.length) (hok : ∀ x ∈ its, ItOk R x) (hg : goneB R wm its[k].f = false) : foldF R wm ((its.take (k + 1)).map itE) = ins (kb its[k].D (flq R wm its[k].f its[k].g) ((stq R wm its[k].f its[k].g : Nat) : Int), its[k].a) (foldF R wm ((its.take k).map itE)) := by
  have hx := hok its[k] (List.getElem_mem hk)
  rw [take_it hk, foldF_snoc (its_gd (fun x hx => hok x (List.mem_of_mem_take hx))) hx.gd, fk_it hx, hg]
  rfl
theorem map_get {xs : List Ev} {j : Nat} (hj : j < xs.length) : (xs.map evE)[j]'(by simpa using hj) = (xs[j].k, xs[j].a) := by simp [evE]
theorem srt_take {E : List En} (hs : SrtE E) {j : Nat} (hj : j < E.length) {K : Ks} (h : E[j].1 = K ∨ ltK E[j].1 K) : ∀ y ∈ E.take j, ltK y.1 K := by
  intro y hy
  obtain ⟨t, ht, rfl⟩ := List.getElem_of_mem hy
  simp at ht
  rw [List.getElem_take]
  have := List.pairwise_iff_getElem.1 hs t j (by simp [keysE]; omega) (by simpa [keysE] using hj) (by omega)
  simp only [keysE, List.getElem_map] at this
  rcases h with h | h
  · rw [← h]; exact this
  · exact ltK_trans this h
/-- All from a place on stand behind a key. -/
def Behind (xs : List Ev) (j : Nat) (K : Ks) : Prop := ∀ t (ht : t < xs.length), j ≤ t → ltK K xs[t].k
theorem behind_drop {xs : List Ev} {j : Nat} {K : Ks} (h : Behind xs j K) : ∀ y ∈ (xs.map evE).drop j, ltK K y.1 := by
  intro y hy
  obtain ⟨t, ht, rfl⟩ := List.getElem_of_mem hy
  simp at ht
  rw [List.getElem_drop]
  have := h (j + t) (by omega) (by omega)
  simpa [evE] using this
theorem behind_step {xs : List Ev} {j : Nat} {K : Ks} (h : Behind xs (j + 1) K) (hj : j < xs.length) (hl : ltK K xs[j].k) : Behind xs j K := by
  intro t ht hjt
  rcases Nat.lt_or_ge j t with h1 | h1
  · exact h t ht h1
  · have : t = j := by omega
    subst this; exact hl
/-- A new entry at its place. -/
theorem FoI.put {R : Rl} {wm : Int} {its : List It} {w1 : World} {k : Nat} {xs : List Ev} {v v' : Value} {wr W : World} {o : Obj} {j : Nat} {kv : Value} {K : Ks} (h : FoI R wm its w1 k xs v wr) (hk : k < its.length) (hok : ∀ x ∈ its, ItOk R x)
    (hn : foldF R wm ((its.take (k + 1)).map itE) = ins (K, its[k].a) (foldF R wm ((its.take k).map itE))) (hj : j ≤ xs.length) (hbh : Behind xs j K) (hah : j = 0 ∨ ∃ (h0 : j - 1 < xs.length), ltK xs[j - 1].k K) (ho : Own wr w1.heap.size kv K)
    (hW : InPost (wr.alloc o) w1.heap.size v xs j ⟨kv, K, its[k].a⟩ (.returned v') W) : FoI R wm its w1 (k + 1) (insE xs j ⟨kv, K, its[k].a⟩) v' W := by
  obtain ⟨v2, e, hown, hg⟩ := hW
  cases e
  have hal := (Below.refl wr.heap.size wr).alloc (Nat.le_refl _) o
  have hrl := World.ownsRow.lt h.r
  have hu : ∀ (t : Nat) (cs : Array Value) (fr : Nat × Nat), wr.heap[t]? = some (Obj.cells cs 5 fr) → W.heap[t]? = some (Obj.cells cs 5 fr) := fun t cs fr q => by
    have hlt := (Array.getElem?_eq_some_iff.1 q).1
    refine (hg.block t (by simp; omega) (fun e => ?_)).trans ((hal.block t hlt).trans q)
    rcases h.r.2 with ⟨q2, _⟩ | ⟨g0, c0, cur, q2, _, hw, _⟩
    · rw [q2] at e; simp [Value.ownBlock] at e
    · rw [q2] at e; simp [Value.ownBlock] at e; subst e
      rw [q] at hw; simp at hw
  refine ⟨by rw [insE_len hj]; exact hown, fun x hx => ?_, ?_, fun x hx => ?_, ?_⟩
  · unfold insE at hx
    rcases List.mem_append.1 hx with hx | hx
    · exact own_kp (h.ks x (List.mem_of_mem_take hx)) hu
    · rcases List.mem_cons.1 hx with rfl | hx
      · exact own_kp ho hu
      · exact own_kp (h.ks x (List.mem_of_mem_drop hx)) hu
  · rw [hn, ← h.m]
    unfold insE
    rw [List.map_append, List.map_cons, List.map_take, List.map_drop]
    have e2 : xs.map evE = (xs.map evE).take j ++ (xs.map evE).drop j := (List.take_append_drop j _).symm
    have hA : ∀ y ∈ (xs.map evE).take j, ltK y.1 K := by
      rcases hah with h0 | ⟨h0, hl⟩
      · subst h0; intro y hy; simp at hy
      · intro y hy
        rcases Nat.eq_zero_or_pos j with hz | hz
        · subst hz; simp at hy
        · obtain ⟨t, ht, rfl⟩ := List.getElem_of_mem hy
          simp at ht
          rw [List.getElem_take]
          rcases Nat.lt_or_ge t (j - 1) with h1 | h1
          · exact srt_take h.srt (j := j - 1) (by simpa using h0) (.inr (by simpa [evE] using hl)) _ (by
              rw [List.mem_take_iff_getElem]
              exact ⟨t, by simp; omega, by simp⟩)
          · have : t = j - 1 := by omega
            subst this
            simpa [evE] using hl
    have := ins_at (x := (K, its[k].a)) hA (behind_drop hbh)
    rw [← e2] at this
    rw [this]; rfl
  · unfold insE at hx
    rcases List.mem_append.1 hx with hx | hx
    · exact h.c x (List.mem_of_mem_take hx)
    · rcases List.mem_cons.1 hx with rfl | hx
      · exact (hok its[k] (List.getElem_mem hk)).c
      · exact h.c x (List.mem_of_mem_drop hx)
  · exact (h.b.alloc h.b.size o).grown hg (by have := h.b.size; simp; omega) (fun t ht => (hrl t ht).1)
/-- An entry that knows more. -/
theorem FoI.more {R : Rl} {wm : Int} {its : List It} {w1 : World} {k : Nat} {xs : List Ev} {g cap : Nat} {wr W : World} {cur : Array Value} {j : Nat} {K : Ks} (h : FoI R wm its w1 k xs (.slice (some ⟨g, 0, none⟩) xs.length cap) wr) (hk : k < its.length) (hok : ∀ x ∈ its, ItOk R x)
    (hn : foldF R wm ((its.take (k + 1)).map itE) = ins (K, its[k].a) (foldF R wm ((its.take k).map itE))) (hj : j < xs.length) (he : xs[j].k = K)
    (hcur : wr.heap[g]? = some (.cells cur 56)) (hW : StW wr W g (j * 7 + 1) cur 56 (a6 (mrg xs[j].a its[k].a))) : FoI R wm its w1 (k + 1) (xs.set j ⟨xs[j].kv, xs[j].k, mrg xs[j].a its[k].a⟩) (.slice (some ⟨g, 0, none⟩) xs.length cap) W := by
  have hx := hok its[k] (List.getElem_mem hk)
  have hgl := World.ownsRow.lt h.r g rfl
  have hset := row_setA h.r hcur hW hj rfl
  have hu : ∀ (t : Nat) (cs : Array Value) (fr : Nat × Nat), wr.heap[t]? = some (Obj.cells cs 5 fr) → W.heap[t]? = some (Obj.cells cs 5 fr) := fun t cs fr q => (hW.o t (typ_ne q hcur (by decide))).trans q
  have hmem : ∀ x ∈ xs.set j ⟨xs[j].kv, xs[j].k, mrg xs[j].a its[k].a⟩, x ∈ xs ∨ x = ⟨xs[j].kv, xs[j].k, mrg xs[j].a its[k].a⟩ := fun x hx => List.mem_or_eq_of_mem_set hx
  refine ⟨by rw [List.length_set]; exact hset, fun x hx => ?_, ?_, fun x hx => ?_, h.b.trans (hW.b _ hgl.1)⟩
  · rcases hmem x hx with hx | rfl
    · exact own_kp (h.ks x hx) hu
    · exact own_kp (h.ks xs[j] (List.getElem_mem hj)) hu
  · rw [hn, ← h.m]
    have hgd : GdE (xs.map evE) := by rw [h.m]; exact foldF_gd (its_gd (fun x hx => hok x (List.mem_of_mem_take hx)))
    have e2 : xs.map evE = (xs.map evE).take j ++ (xs[j].k, xs[j].a) :: (xs.map evE).drop (j + 1) := by
      have h1 := List.take_append_drop j (xs.map evE)
      rw [List.drop_eq_getElem_cons (show j < (xs.map evE).length by simpa using hj), map_get hj] at h1
      exact h1.symm
    have h3 := ins_mid (x := (K, its[k].a)) (l := (xs[j].k, xs[j].a)) he.symm (A := (xs.map evE).take j) (B := (xs.map evE).drop (j + 1)) (srt_take h.srt (by simpa using hj) (.inl (by rw [map_get hj]; exact he)))
    rw [← e2] at h3
    rw [h3, List.map_set, gd_comm hx.gd (hgd (xs[j].k, xs[j].a) (by rw [e2]; simp))]
    rw [List.set_eq_take_append_cons_drop, if_pos (by simpa using hj)]
    rfl
  · rcases hmem x hx with hx | rfl
    · exact h.c x hx
    · exact mrg_cnk (h.c xs[j] (List.getElem_mem hj)) (hok its[k] (List.getElem_mem hk)).c
end Go.Proofs.YthicmbjiblbcmaaGreat
