/- MY4x MY4y, joined. -/
import Derived.Test.YtilbffgpniomcaaGreatDoorQQ26
/- The reference of layer 13: edit. -/
namespace Go.Proofs.YtilbffgpniomcaaGreatDoor
open Go.RowKit Go.Shelf

/-- A slice of numbers, with its capacity. -/
structure JU (w : World) (v : Value) (l : List Int) : Prop where
  r : JR w v l
  c : ∀ a n cap, v = .slice a n cap → n ≤ cap ∧ cap ≤ maxLen
theorem JU.below {w w' : World} {v : Value} {l : List Int} (h : JU w v l) (hb : Below w.heap.size w w') : JU w' v l := ⟨h.r.below hb, h.c⟩
theorem gown_ju {w : World} {T : TypeId} {v : Value} {l : List Int} (h : GOwn w T 1 v l.length (l.map ji)) : JU w v l := ⟨gown_jr h, fun a n cap e => by
  obtain ⟨a', c', e', h1, h2, _⟩ := GOwn.form h
  rw [e'] at e
  simp only [Value.slice.injEq] at e
  omega⟩
theorem elemI : Tryz.prog.elem 50 = 3 := by kernel_rfl
theorem undI : Tryz.prog.underlying 50 = some (.slice (Tryz.prog.elem 50)) := by rw [elemI]; exact Tryz.underlying50
theorem sizeI (w : World) : (sizeOf 3).run Tryz.prog w = .ok 1 w := by
  simp [sizeOf]
  rfl
theorem jsl_lh {w : World} {b off N cap : Nat} {l : List Int} (h : JU w (.slice (some ⟨b, off, none⟩) N cap) l) (hN : l.length = N) {n : Nat} (hn : 1 + n < N) :
    (∀ w', (Instr.slice 50 (.slice (some ⟨b, off, none⟩) N cap) (some (.int .i64 1)) (some (.int .i64 (1 + (n : Int)))) none).run Tryz.prog w' = .ok (.slice (some ⟨b, off + 1, none⟩) n (cap - 1)) w') ∧ JR w (.slice (some ⟨b, off + 1, none⟩) n (cap - 1)) ((l.drop 1).take n) := by
  obtain ⟨h1, h2⟩ := h.c _ _ _ rfl
  unfold maxLen at h2
  have hl : ((l.drop 1).take n).length = n := by rw [List.length_take, List.length_drop]; omega
  refine ⟨fun w' => ?_, ⟨_, cap - 1, by rw [hl], by rw [hl]; unfold maxLen; omega, fun j hj => ?_⟩⟩
  · have e := run_slice_lh (P := Tryz.prog) w' 50 (some ⟨b, off, none⟩) N cap undI .i64 .i64 1 (1 + (n : Int)) (by omega) (by omega) (by omega)
    rw [e, elemI, sizeI]
    show Result.ok (Go.sliced (some ⟨b, off, none⟩) 1 (1 + (n : Int)).toNat cap 1) w' = _
    have e2 : (1 + (n : Int)).toNat = 1 + n := by omega
    rw [e2]
    unfold Go.sliced
    rw [if_neg (by omega), show 1 + n - 1 = n by omega]
    rfl
  · rw [hl] at hj
    obtain ⟨b', off', e', hb', hc'⟩ := h.r.at (j := j + 1) (by omega) rfl
    simp only [Option.some.injEq, Addr.mk.injEq, and_true] at e'
    obtain ⟨rfl, rfl⟩ := e'
    refine ⟨b, off + 1, rfl, hb', ?_⟩
    rw [show off + 1 + j = off + (j + 1) by omega, hc']
    simp [List.getElem_take]
theorem jsl_from {w : World} {b off N cap : Nat} {l : List Int} (h : JU w (.slice (some ⟨b, off, none⟩) N cap) l) (hN : l.length = N) {d : Nat} (hd : d ≤ N) :
    ∃ a', (∀ w', (Instr.slice 50 (.slice (some ⟨b, off, none⟩) N cap) (some (.int .i64 (d : Int))) none none).run Tryz.prog w' = .ok (.slice (some a') (N - d) (cap - d)) w') ∧ JR w (.slice (some a') (N - d) (cap - d)) (l.drop d) := by
  obtain ⟨h1, h2⟩ := h.c _ _ _ rfl
  unfold maxLen at h2
  have hl : (l.drop d).length = N - d := by rw [List.length_drop, hN]
  obtain ⟨a', ha⟩ : ∃ a', (if cap = d then some (⟨b, off, none⟩ : Addr) else (some (⟨b, off, none⟩ : Addr)).map (·.add (d * 1))) = some a' := by split <;> exact ⟨_, rfl⟩
  refine ⟨a', fun w' => ?_, ⟨_, cap - d, by rw [hl], by rw [hl]; unfold maxLen; omega, fun j hj => ?_⟩⟩
  · rw [run_slice_l _ _ _ _ _ undI _ _ (by omega) (by omega), elemI, sizeI]
    show Result.ok (Go.sliced (some ⟨b, off, none⟩) d N cap 1) w' = _
    unfold Go.sliced
    rw [ha]
  · rw [hl] at hj
    rw [if_neg (by omega)] at ha
    simp only [Option.map_some, Option.some.injEq] at ha
    obtain ⟨b', off', e', hb', hc'⟩ := h.r.at (j := d + j) (by omega) rfl
    simp only [Option.some.injEq, Addr.mk.injEq, and_true] at e'
    obtain ⟨rfl, rfl⟩ := e'
    have ea : (⟨b, off, none⟩ : Addr).add (d * 1) = ⟨b, off + d, none⟩ := by simp [Addr.add]
    rw [ea] at ha
    subst ha
    refine ⟨b, off + d, rfl, hb', ?_⟩
    rw [show off + d + j = off + (d + j) by omega, hc']
    simp [List.getElem_drop]
end Go.Proofs.YtilbffgpniomcaaGreatDoor

/- The reference's edit: what stands while it is made. -/
namespace Go.Proofs.YtilbffgpniomcaaGreatDoor
open Go.RowKit Go.Shelf

structure EdS (w W : World) (dv av : Value) (dr : List Int) (ad : List Ru) (x2 x3 x4 : Value) : Prop where
  b : Below w.heap.size w W
  z : W.heap[w.heap.size]? = some (.cells #[.slice none 0 0, .slice none 0 0, .int .i64 0, .int .i64 0, .int .i64 0] 56)
  x : W.heap[w.heap.size + 1]? = some (.cells #[dv, av, x2, x3, x4] 56)
  d : GOwn W 3 1 dv dr.length (dr.map ji)
  a : GOwn W 101 3 av ad.length (ad.flatMap r3L)
  dk : ∀ k, dv.ownBlock = some k → w.heap.size + 2 ≤ k ∧ k < W.heap.size
  ak : ∀ k, av.ownBlock = some k → w.heap.size + 2 ≤ k ∧ k < W.heap.size
section
variable {w W W' : World} {dv av : Value} {dr : List Int} {ad : List Ru} {x2 x3 x4 : Value}
theorem EdS.sz (h : EdS w W dv av dr ad x2 x3 x4) : w.heap.size + 1 < W.heap.size := (Array.getElem?_eq_some_iff.1 h.x).1
theorem EdS.below (h : EdS w W dv av dr ad x2 x3 x4) (hb : Below W.heap.size W W') : EdS w W' dv av dr ad x2 x3 x4 := by
  have hs := h.sz
  exact ⟨h.b.trans (hb.mono (by omega)), (hb.block _ (by omega)).trans h.z, (hb.block _ (by omega)).trans h.x, h.d.keep fun k e => hb.block k (h.dk k e).2, h.a.keep fun k e => hb.block k (h.ak k e).2, fun k e => ⟨(h.dk k e).1, Nat.lt_of_lt_of_le (h.dk k e).2 hb.size⟩, fun k e => ⟨(h.ak k e).1, Nat.lt_of_lt_of_le (h.ak k e).2 hb.size⟩⟩
theorem EdS.set0 {v' : Value} {dr' : List Int} (h : EdS w W dv av dr ad x2 x3 x4) (ho : Onl (fun k => dv.ownBlock = some k) W W') (hd : GOwn W' 3 1 v' dr'.length (dr'.map ji)) (hk : ∀ k, v'.ownBlock = some k → dv.ownBlock = some k ∨ (W.heap.size ≤ k ∧ k < W'.heap.size)) :
    W'.heap[w.heap.size + 1]? = some (.cells #[dv, av, x2, x3, x4] 56) ∧ EdS w (W'.setCell ⟨w.heap.size + 1, 0, none⟩ v') v' av dr' ad x2 x3 x4 := by
  have hs := h.sz
  have hsz := ho.size
  have lo : ∀ k, k < w.heap.size + 2 → W'.heap[k]? = W.heap[k]? := fun k hk => ho.block k (by omega) fun e => by have := (h.dk k e).1; omega
  have hx : W'.heap[w.heap.size + 1]? = some (.cells #[dv, av, x2, x3, x4] 56) := (lo _ (by omega)).trans h.x
  have hset : ∀ k, k ≠ w.heap.size + 1 → (W'.setCell ⟨w.heap.size + 1, 0, none⟩ v').heap[k]? = W'.heap[k]? := fun k hk => Go.heap_setCell_other _ _ _ _ hk
  have hb1 : Below w.heap.size W W' := ho.below (by omega) fun k e => by have := (h.dk k e).1; omega
  have hb2 : Below w.heap.size W (W'.setCell ⟨w.heap.size + 1, 0, none⟩ v') := hb1.setCell (by show w.heap.size ≤ w.heap.size + 1; omega) _
  have hne : ∀ k, dv.ownBlock = some k → av.ownBlock = some k → False := fun k e1 e2 => by
    obtain ⟨c1, g1⟩ := h.d.block e1
    obtain ⟨c2, g2⟩ := h.a.block e2
    exact ty_ne g1 g2 (by decide) rfl
  have hzs : (W'.setCell ⟨w.heap.size + 1, 0, none⟩ v').heap.size = W'.heap.size := by simp [World.setCell]
  refine ⟨hx, ⟨h.b.trans hb2, ?_, ?_, ?_, ?_, fun k e => ?_, fun k e => ?_⟩⟩
  · rw [hset _ (by omega), lo _ (by omega)]; exact h.z
  · rw [heap_setCell_same _ _ _ _ _ _ hx]; rfl
  · refine hd.keep fun k e => hset k ?_
    rcases hk k e with g | g
    · have := (h.dk k g).1; omega
    · omega
  · refine h.a.keep fun k e => ?_
    rw [hset k (by have := (h.ak k e).1; omega), ho.block k (h.ak k e).2 fun g => hne k g e]
  · rw [hzs]
    rcases hk k e with g | g
    · have := h.dk k g; omega
    · omega
  · rw [hzs]; have := h.ak k e; omega
theorem EdS.set1 {v' : Value} {ad' : List Ru} (h : EdS w W dv av dr ad x2 x3 x4) (ho : Onl (fun k => av.ownBlock = some k) W W') (hd : GOwn W' 101 3 v' ad'.length (ad'.flatMap r3L)) (hk : ∀ k, v'.ownBlock = some k → av.ownBlock = some k ∨ (W.heap.size ≤ k ∧ k < W'.heap.size)) :
    W'.heap[w.heap.size + 1]? = some (.cells #[dv, av, x2, x3, x4] 56) ∧ EdS w (W'.setCell ⟨w.heap.size + 1, 1, none⟩ v') dv v' dr ad' x2 x3 x4 := by
  have hs := h.sz
  have hsz := ho.size
  have lo : ∀ k, k < w.heap.size + 2 → W'.heap[k]? = W.heap[k]? := fun k hk => ho.block k (by omega) fun e => by have := (h.ak k e).1; omega
  have hx : W'.heap[w.heap.size + 1]? = some (.cells #[dv, av, x2, x3, x4] 56) := (lo _ (by omega)).trans h.x
  have hset : ∀ k, k ≠ w.heap.size + 1 → (W'.setCell ⟨w.heap.size + 1, 1, none⟩ v').heap[k]? = W'.heap[k]? := fun k hk => Go.heap_setCell_other _ _ _ _ hk
  have hb1 : Below w.heap.size W W' := ho.below (by omega) fun k e => by have := (h.ak k e).1; omega
  have hb2 : Below w.heap.size W (W'.setCell ⟨w.heap.size + 1, 1, none⟩ v') := hb1.setCell (by show w.heap.size ≤ w.heap.size + 1; omega) _
  have hne : ∀ k, dv.ownBlock = some k → av.ownBlock = some k → False := fun k e1 e2 => by
    obtain ⟨c1, g1⟩ := h.d.block e1
    obtain ⟨c2, g2⟩ := h.a.block e2
    exact ty_ne g1 g2 (by decide) rfl
  have hzs : (W'.setCell ⟨w.heap.size + 1, 1, none⟩ v').heap.size = W'.heap.size := by simp [World.setCell]
  refine ⟨hx, ⟨h.b.trans hb2, ?_, ?_, ?_, ?_, fun k e => ?_, fun k e => ?_⟩⟩
  · rw [hset _ (by omega), lo _ (by omega)]; exact h.z
  · rw [heap_setCell_same _ _ _ _ _ _ hx]; rfl
  · refine h.d.keep fun k e => ?_
    rw [hset k (by have := (h.dk k e).1; omega), ho.block k (h.dk k e).2 fun g => hne k e g]
  · refine hd.keep fun k e => hset k ?_
    rcases hk k e with g | g
    · have := (h.ak k g).1; omega
    · omega
  · rw [hzs]; have := h.dk k e; omega
  · rw [hzs]
    rcases hk k e with g | g
    · have := h.ak k g; omega
    · omega
theorem EdS.drops (h : EdS w W dv av [] ad x2 x3 x4) {vx : Value} {ns : List Int} (hx : JR W vx ns) (hz : ∀ n c, vx = .slice none n c → c = 0) (hl : ns.length < 1000000) :
    ∃ v' W', (Builtin.append_ #[50, 50] 50 #[dv, vx]).run Tryz.prog W = .ok v' W' ∧ W'.heap[w.heap.size + 1]? = some (.cells #[dv, av, x2, x3, x4] 56) ∧ EdS w (W'.setCell ⟨w.heap.size + 1, 0, none⟩ v') v' av ns ad x2 x3 x4 := by
  obtain ⟨i0, hi, hz0, hz1, hz2⟩ := info_parts infoI13
  obtain ⟨v', W', g1, g2, g3, g4⟩ := run_gapp (P := Tryz.prog) 50 50 3 i0 _ 1 8 Tryz.underlying50 hi hz0 hz1 hz2 rfl dv 0 [] h.d vx ns.length _ (src_jr hx hz) (by
    intro u hu
    obtain ⟨x, _, rfl⟩ := List.mem_map.1 hu
    rfl) (by simp only [maxLen]; omega) (by omega)
  obtain ⟨k1, k2⟩ := h.set0 (dr' := ns) (Onl.grown g3 fun k e => e) (by simpa using g2) g4
  exact ⟨v', W', g1, k1, k2⟩
theorem EdS.add (h : EdS w W dv av dr ad x2 x3 x4) (r : Ru) (hl : ad.length < 1000000) :
    ∃ v' W', (Builtin.append_ #[36, 36] 36 #[av, .slice (some ⟨W.heap.size, 0, none⟩) 1 1]).run Tryz.prog (W.alloc (.cells #[.int .i64 r.f, .int .i64 r.l, .int .i64 r.c] 101)) = .ok v' W' ∧ W'.heap[w.heap.size + 1]? = some (.cells #[dv, av, x2, x3, x4] 56) ∧ EdS w (W'.setCell ⟨w.heap.size + 1, 1, none⟩ v') dv v' dr (ad ++ [r]) x2 x3 x4 := by
  obtain ⟨i0, hi, hz0, hz1, hz2⟩ := info_parts infoV13
  obtain ⟨v', W', h1, h2, h3, h4⟩ := run_one 36 36 101 i0 _ 3 24 Tryz.underlying36 hi hz0 hz1 hz2 rfl av ad.length _ h.a (fun k e => (h.ak k e).2) (r3L r) rfl (by intro u hu; simp [r3L] at hu; rcases hu with rfl | rfl | rfl <;> rfl) hl (by decide)
  have hg : Onl (fun k => av.ownBlock = some k) W W' := (Onl.alloc _).then (Onl.grown h3 fun k e => e)
  have hd : GOwn W' 101 3 v' (ad ++ [r]).length ((ad ++ [r]).flatMap r3L) := by rw [List.length_append, List.flatMap_append]; simpa using h2
  obtain ⟨hx, hr⟩ := h.set1 hg hd h4
  exact ⟨v', W', h1, hx, hr⟩
theorem EdS.fin (h : EdS w W dv av dr ad x2 x3 x4) (a b c : Value) : EdS w (((W.setCell ⟨w.heap.size + 1, 2, none⟩ a).setCell ⟨w.heap.size + 1, 3, none⟩ b).setCell ⟨w.heap.size + 1, 4, none⟩ c) dv av dr ad a b c := by
  have hs := h.sz
  have hset : ∀ k, k ≠ w.heap.size + 1 → (((W.setCell ⟨w.heap.size + 1, 2, none⟩ a).setCell ⟨w.heap.size + 1, 3, none⟩ b).setCell ⟨w.heap.size + 1, 4, none⟩ c).heap[k]? = W.heap[k]? := fun k hk => by rw [Go.heap_setCell_other _ _ _ _ hk, Go.heap_setCell_other _ _ _ _ hk, Go.heap_setCell_other _ _ _ _ hk]
  have hb2 : Below w.heap.size W (((W.setCell ⟨w.heap.size + 1, 2, none⟩ a).setCell ⟨w.heap.size + 1, 3, none⟩ b).setCell ⟨w.heap.size + 1, 4, none⟩ c) := (((Below.refl _ _).setCell (by show w.heap.size ≤ w.heap.size + 1; omega) _).setCell (by show w.heap.size ≤ w.heap.size + 1; omega) _).setCell (by show w.heap.size ≤ w.heap.size + 1; omega) _
  have hzs : (((W.setCell ⟨w.heap.size + 1, 2, none⟩ a).setCell ⟨w.heap.size + 1, 3, none⟩ b).setCell ⟨w.heap.size + 1, 4, none⟩ c).heap.size = W.heap.size := by simp [World.setCell]
  refine ⟨h.b.trans hb2, (hset _ (by omega)).trans h.z, ?_, h.d.keep fun k e => hset k (by have := (h.dk k e).1; omega), h.a.keep fun k e => hset k (by have := (h.ak k e).1; omega), fun k e => by rw [hzs]; exact h.dk k e, fun k e => by rw [hzs]; exact h.ak k e⟩
  rw [heap_setCell_same _ _ _ _ _ _ (heap_setCell_same _ _ _ _ _ _ (heap_setCell_same _ _ _ _ _ _ h.x))]; rfl
end
end Go.Proofs.YtilbffgpniomcaaGreatDoor
