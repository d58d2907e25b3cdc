/- MG19 CN G7 G8 K0, joined. -/
import Derived.Test.YtoenijflijfogaaRD3
import Derived.Test.YtoenijflijfogaaRD5
import Derived.Test.YtoenijflijfogaaRD6
import Derived.Test.YtoenijflijfogaaRD10
import Derived.SliceStrings
import Derived.Lib.SmallJoins
import Derived.OpenShut
import Derived.ProofKit
/- What is known of a key in all rows together. -/
namespace Go.Proofs.Ytoenijflijfogaa

end Go.Proofs.Ytoenijflijfogaa

/- Entries by their keys: what comes of a list of them hangs neither on their order nor on how they are parted. -/
namespace Go.Proofs.Ytoenijflijfogaa

/-- What may be known: right, and nothing where it is of no facts. -/
structure Gd (a : Ag) : Prop where
  c : CnOk a
  r : rightB a = true
  z : a.c = 0 → a = agZ
theorem Gd.zero : Gd agZ := ⟨⟨by decide, by decide⟩, by decide, fun _ => rfl⟩
theorem Gd.of {a : Ag} (hc : CnOk a) (hr : rightB a = true) (h1 : -170141183460469231731687303715884105728 ≤ a.s) (h2 : a.s < 170141183460469231731687303715884105728) : Gd a := by
  refine ⟨hc, hr, fun h => ?_⟩
  obtain ⟨c, o, s, mn, mx⟩ := a
  unfold rightB at hr
  dsimp only at h hr h1 h2
  rw [if_pos h] at hr
  simp only [Bool.and_eq_true, Bool.not_eq_true', beq_iff_eq] at hr
  obtain ⟨⟨⟨⟨k1, k2⟩, k3⟩, k4⟩, k5⟩ := hr
  unfold hi at k2
  unfold lo at k3
  have hs : s = 0 := by omega
  unfold agZ
  rw [h, k1, hs, k4, k5]
theorem mrg_cnk {a b : Ag} (ha : CnOk a) (hb : CnOk b) : CnOk (mrg a b) := by
  unfold CnOk at *
  unfold mrg
  split
  · exact hb
  · split
    · exact ha
    · dsimp only; unfold cntF; split <;> omega
theorem mrg_rightB {a b : Ag} (ha : rightB a = true) (hb : rightB b = true) (ca : CnOk a) (cb : CnOk b) : rightB (mrg a b) = true := by
  unfold mrg
  by_cases h1 : a.c = 0
  · rw [if_pos h1]; exact hb
  · rw [if_neg h1]
    by_cases h2 : b.c = 0
    · rw [if_pos h2]; exact ha
    · rw [if_neg h2]
      obtain ⟨a1, a2⟩ := ca
      obtain ⟨b1, b2⟩ := cb
      unfold rightB at ha hb ⊢
      rw [if_neg h1] at ha
      rw [if_neg h2] at hb
      simp only [Bool.and_eq_true, decide_eq_true_eq, Bool.or_eq_true, Bool.not_eq_true', beq_iff_eq] at ha hb
      have hc : 0 < cntF a.c b.c := by unfold cntF; split <;> omega
      show (if cntF a.c b.c = 0 then _ else _) = true
      rw [if_neg (by omega)]
      simp only [Bool.and_eq_true, decide_eq_true_eq, Bool.or_eq_true, Bool.not_eq_true', beq_iff_eq]
      refine ⟨by unfold minF maxF; split <;> split <;> omega, ?_⟩
      by_cases h : 18446744073709551616 ≤ a.c + b.c
      · right; unfold cntF; rw [if_neg (by omega)]
      · have hov : ovF a.c b.c = false := by unfold ovF; simp; omega
        rw [hov]
        cases ho : a.o
        · cases ho2 : b.o
          · left; rfl
          · rcases hb.2 with h2 | h2
            · rw [ho2] at h2; cases h2
            · omega
        · rcases ha.2 with h2 | h2
          · rw [ho] at h2; cases h2
          · omega
theorem Gd.mrg {a b : Ag} (ha : Gd a) (hb : Gd b) : Gd (mrg a b) := by
  refine ⟨mrg_cnk ha.c hb.c, mrg_rightB ha.r hb.r ha.c hb.c, fun h => ?_⟩
  by_cases h1 : a.c = 0
  · have e : Go.Proofs.Ytoenijflijfogaa.mrg a b = b := by unfold Go.Proofs.Ytoenijflijfogaa.mrg; rw [if_pos h1]
    rw [e] at h ⊢; exact hb.z h
  · by_cases h2 : b.c = 0
    · have e : Go.Proofs.Ytoenijflijfogaa.mrg a b = a := by unfold Go.Proofs.Ytoenijflijfogaa.mrg; rw [if_neg h1, if_pos h2]
      rw [e] at h ⊢; exact ha.z h
    · exfalso
      rw [mrg_both a b h1 h2] at h
      dsimp only at h
      have c1 := ha.c.1
      have c2 := hb.c.1
      unfold cntF at h
      split at h <;> omega
theorem gd_comm {a b : Ag} (ha : Gd a) (hb : Gd b) : mrg a b = mrg b a := by
  by_cases h1 : a.c = 0
  · by_cases h2 : b.c = 0
    · rw [ha.z h1, hb.z h2]
    · unfold mrg; rw [if_pos h1, if_neg h2, if_pos h1]
  · by_cases h2 : b.c = 0
    · unfold mrg; rw [if_neg h1, if_pos h2, if_pos h2]
    · rw [mrg_both a b h1 h2, mrg_both b a h2 h1]
      have e1 : cntF a.c b.c = cntF b.c a.c := by unfold cntF; rw [Int.add_comm]
      have e2 : (ovF a.c b.c || a.o || b.o) = (ovF b.c a.c || b.o || a.o) := by
        unfold ovF; rw [Int.add_comm]; cases a.o <;> cases b.o <;> simp
      have e3 : minF a.mn b.mn = minF b.mn a.mn := by unfold minF; split <;> split <;> omega
      have e4 : maxF a.mx b.mx = maxF b.mx a.mx := by unfold maxF; split <;> split <;> omega
      rw [e1, e2, Int.add_comm a.s, e3, e4]
theorem gd_assoc {z x y : Ag} (kz : Gd z) (kx : Gd x) (ky : Gd y) : mrg (mrg z x) y = mrg z (mrg x y) := by
  by_cases h1 : z.c = 0
  · have e1 : ∀ t, mrg z t = t := fun t => by unfold mrg; rw [if_pos h1]
    rw [e1, e1]
  · by_cases h2 : x.c = 0
    · have e1 : mrg z x = z := by unfold mrg; rw [if_neg h1, if_pos h2]
      have e2 : mrg x y = y := by unfold mrg; rw [if_pos h2]
      rw [e1, e2]
    · have hz : 0 < z.c := by have := kz.c.1; omega
      have hx : 0 < x.c := by have := kx.c.1; omega
      have p1 : 0 < cntF z.c x.c := by unfold cntF; split <;> omega
      by_cases h3 : y.c = 0
      · have e2 : mrg x y = x := by unfold mrg; rw [if_neg h2, if_pos h3]
        rw [e2, mrg_both z x h1 h2]
        unfold mrg
        dsimp only
        rw [if_neg (by omega), if_pos h3]
      · have hy : 0 < y.c := by have := ky.c.1; omega
        have p2 : 0 < cntF x.c y.c := by unfold cntF; split <;> omega
        rw [mrg_both z x h1 h2, mrg_both x y h2 h3, mrg_both _ y (by dsimp only; omega) h3, mrg_both z _ h1 (by dsimp only; omega)]
        dsimp only
        have e1 : cntF (cntF z.c x.c) y.c = cntF z.c (cntF x.c y.c) := by unfold cntF; split <;> split <;> split <;> (try split) <;> omega
        have e2 : (ovF (cntF z.c x.c) y.c || (ovF z.c x.c || z.o || x.o) || y.o) = (ovF z.c (cntF x.c y.c) || z.o || (ovF x.c y.c || x.o || y.o)) := by
          unfold ovF cntF
          cases z.o <;> cases x.o <;> cases y.o <;> simp
          rw [Bool.eq_iff_iff]
          simp
          split <;> split <;> omega
        have e3 : minF (minF z.mn x.mn) y.mn = minF z.mn (minF x.mn y.mn) := by unfold minF; (repeat' split) <;> omega
        have e4 : maxF (maxF z.mx x.mx) y.mx = maxF z.mx (maxF x.mx y.mx) := by unfold maxF; (repeat' split) <;> omega
        rw [e1, e2, Int.add_assoc, e3, e4]
/-- One more entry, at its place. -/
def ins (x : En) : List En → List En
  | [] => [x]
  | y :: L => if ltK x.1 y.1 then x :: y :: L else if x.1 = y.1 then (y.1, mrg x.2 y.2) :: L else y :: ins x L
def ap (A L : List En) : List En := A.foldr ins L
/-- What comes of entries. -/
def can (M : List En) : List En := ap M []
def GdE (L : List En) : Prop := ∀ y ∈ L, Gd y.2
theorem GdE.cons {x : En} {L : List En} : GdE (x :: L) ↔ Gd x.2 ∧ GdE L := by unfold GdE; simp
theorem GdE.nil : GdE [] := fun _ h => by cases h
theorem GdE.app {A B : List En} : GdE (A ++ B) ↔ GdE A ∧ GdE B := by
  unfold GdE
  constructor
  · intro h; exact ⟨fun y hy => h y (List.mem_append_left _ hy), fun y hy => h y (List.mem_append_right _ hy)⟩
  · intro h y hy
    rcases List.mem_append.1 hy with h1 | h1
    · exact h.1 y h1
    · exact h.2 y h1
theorem GdE.perm {A B : List En} (h : GdE A) (hp : A.Perm B) : GdE B := fun y hy => h y (hp.mem_iff.2 hy)
theorem ins_gd {x : En} (hx : Gd x.2) : ∀ {L : List En}, GdE L → GdE (ins x L)
  | [], _ => by unfold ins; exact GdE.cons.2 ⟨hx, GdE.nil⟩
  | y :: L, h => by
    have h' := GdE.cons.1 h
    unfold ins
    split
    · exact GdE.cons.2 ⟨hx, h⟩
    · split
      · exact GdE.cons.2 ⟨hx.mrg h'.1, h'.2⟩
      · exact GdE.cons.2 ⟨h'.1, ins_gd hx h'.2⟩
theorem ap_gd {L : List En} (hL : GdE L) : ∀ {A : List En}, GdE A → GdE (ap A L)
  | [], _ => hL
  | _ :: _, h => ins_gd (GdE.cons.1 h).1 (ap_gd hL (GdE.cons.1 h).2)
theorem can_gd {A : List En} (h : GdE A) : GdE (can A) := ap_gd GdE.nil h
theorem ins_lt {x y : En} {L : List En} (h : ltK x.1 y.1) : ins x (y :: L) = x :: y :: L := by rw [ins, if_pos h]
theorem ins_eq {x y : En} {L : List En} (h : x.1 = y.1) : ins x (y :: L) = (y.1, mrg x.2 y.2) :: L := by
  rw [ins, if_neg (by rw [h]; exact ltK_irrefl _), if_pos h]
theorem ins_gt {x y : En} {L : List En} (h : ltK y.1 x.1) : ins x (y :: L) = y :: ins x L := by
  rw [ins, if_neg (fun h2 => ltK_irrefl _ (ltK_trans h h2)), if_neg (fun e => ltK_ne h e.symm)]
theorem ins_comm {x y : En} (hx : Gd x.2) (hy : Gd y.2) : ∀ {L : List En}, GdE L → ins x (ins y L) = ins y (ins x L)
  | [], _ => by
    show ins x [y] = ins y [x]
    rcases ltK_tri x.1 y.1 with h | h | h
    · rw [ins_lt h, ins_gt h]; rfl
    · rw [ins_eq h, ins_eq h.symm, gd_comm hx hy, h]
    · rw [ins_gt h, ins_lt h]; rfl
  | z :: L, hL => by
    have hz := (GdE.cons.1 hL).1
    have ih := ins_comm hx hy (GdE.cons.1 hL).2
    rcases ltK_tri x.1 z.1 with h1 | h1 | h1
    · rcases ltK_tri y.1 z.1 with h2 | h2 | h2
      · rw [ins_lt h1, ins_lt h2]
        rcases ltK_tri x.1 y.1 with h | h | h
        · rw [ins_lt h, ins_gt h, ins_lt h2]
        · rw [ins_eq h, ins_eq h.symm, gd_comm hx hy, h]
        · rw [ins_gt h, ins_lt h, ins_lt h1]
      · have h3 : ltK x.1 y.1 := h2 ▸ h1
        rw [ins_lt h1, ins_eq h2, ins_gt h3, ins_eq h2, ins_lt (by exact h1)]
      · have h3 : ltK x.1 y.1 := ltK_trans h1 h2
        rw [ins_lt h1, ins_gt h2, ins_gt h3, ins_gt h2, ins_lt h1]
    · rcases ltK_tri y.1 z.1 with h2 | h2 | h2
      · have h3 : ltK y.1 x.1 := h1 ▸ h2
        rw [ins_eq h1, ins_lt h2, ins_gt h3, ins_eq h1, ins_lt (by exact h2)]
      · rw [ins_eq h1, ins_eq h2, ins_eq (by exact h1), ins_eq (by exact h2)]
        dsimp only
        rw [← gd_assoc hx hy hz, gd_comm hx hy, gd_assoc hy hx hz]
      · rw [ins_eq h1, ins_gt h2, ins_eq h1, ins_gt (by exact h2)]
    · rcases ltK_tri y.1 z.1 with h2 | h2 | h2
      · have h3 : ltK y.1 x.1 := ltK_trans h2 h1
        rw [ins_gt h1, ins_lt h2, ins_lt h2, ins_gt h3, ins_gt h1]
      · rw [ins_gt h1, ins_eq h2, ins_eq h2, ins_gt (by exact h1)]
      · rw [ins_gt h1, ins_gt h2, ins_gt h2, ins_gt h1, ih]
theorem ins_join {k : Ks} {a b : Ag} (ha : Gd a) (hb : Gd b) : ∀ {L : List En}, GdE L → ins (k, a) (ins (k, b) L) = ins (k, mrg a b) L
  | [], _ => by
    show ins (k, a) [(k, b)] = [(k, mrg a b)]
    rw [ins_eq (x := (k, a)) (y := (k, b)) rfl]
  | z :: L, hL => by
    have hz := (GdE.cons.1 hL).1
    have ih := ins_join (k := k) ha hb (GdE.cons.1 hL).2
    rcases ltK_tri k z.1 with h1 | h1 | h1
    · rw [ins_lt (x := (k, b)) h1, ins_lt (x := (k, mrg a b)) h1, ins_eq (x := (k, a)) (y := (k, b)) rfl]
    · rw [ins_eq (x := (k, b)) h1, ins_eq (x := (k, mrg a b)) h1, ins_eq (x := (k, a)) (by exact h1)]
      dsimp only
      rw [gd_assoc ha hb hz]
    · rw [ins_gt (x := (k, b)) h1, ins_gt (x := (k, mrg a b)) h1, ins_gt (x := (k, a)) h1, ih]
theorem ap_cons (x : En) (A L : List En) : ap (x :: A) L = ins x (ap A L) := rfl
theorem ap_perm {A B : List En} (hp : A.Perm B) : GdE A → ∀ {L : List En}, GdE L → ap A L = ap B L := by
  induction hp with
  | nil => intro _ L _; rfl
  | cons x p ih => intro h L hL; rw [ap_cons, ap_cons, ih (GdE.cons.1 h).2 hL]
  | swap x y l =>
    intro h L hL
    have h1 := GdE.cons.1 h
    have h2 := GdE.cons.1 h1.2
    rw [ap_cons, ap_cons, ap_cons, ap_cons]
    exact ins_comm h1.1 h2.1 (ap_gd hL h2.2)
  | trans p1 p2 i1 i2 => intro h L hL; rw [i1 h hL, i2 (h.perm p1) hL]
/-- In which order they stand is of no matter. -/
theorem can_perm {A B : List En} (hp : A.Perm B) (h : GdE A) : can A = can B := ap_perm hp h GdE.nil
/-- Other keys. -/
def fm (f : Ks → Option Ks) (M : List En) : List En := M.filterMap fun x => (f x.1).map fun k => (k, x.2)
theorem fm_cons (f : Ks → Option Ks) (x : En) (M : List En) : fm f (x :: M) = match f x.1 with | none => fm f M | some k => (k, x.2) :: fm f M := by
  unfold fm
  rw [List.filterMap_cons]
  cases f x.1 <;> rfl
theorem fm_app (f : Ks → Option Ks) (A B : List En) : fm f (A ++ B) = fm f A ++ fm f B := List.filterMap_append
theorem fm_gd (f : Ks → Option Ks) : ∀ {M : List En}, GdE M → GdE (fm f M)
  | [], _ => GdE.nil
  | x :: M, h => by
    have h' := GdE.cons.1 h
    rw [fm_cons]
    cases f x.1 with
    | none => exact fm_gd f h'.2
    | some k => exact GdE.cons.2 ⟨h'.1, fm_gd f h'.2⟩
theorem ap_fm_ins (f : Ks → Option Ks) {x : En} (hx : Gd x.2) {C : List En} (hC : GdE C) : ∀ {L : List En}, GdE L → ap (fm f (ins x L)) C = ap (fm f (x :: L)) C
  | [], _ => rfl
  | y :: L, hL => by
    have h' := GdE.cons.1 hL
    rcases ltK_tri x.1 y.1 with h | h | h
    · rw [ins_lt h]
    · rw [ins_eq h, fm_cons, fm_cons, fm_cons, h]
      dsimp only
      cases hf : f y.1 with
      | none => rfl
      | some k =>
        exact (ins_join hx h'.1 (ap_gd hC (fm_gd f h'.2))).symm
    · have ih := ap_fm_ins f hx hC h'.2
      rw [ins_gt h, fm_cons]
      rw [fm_cons] at ih
      rw [fm_cons f x, fm_cons f y]
      cases hy : f y.1 with
      | none => exact ih
      | some k =>
        show ins (k, y.2) (ap (fm f (ins x L)) C) = _
        rw [ih]
        cases hf : f x.1 with
        | none => rfl
        | some m => exact ins_comm (x := (k, y.2)) (y := (m, x.2)) h'.1 hx (ap_gd hC (fm_gd f h'.2))
theorem can_fm (f : Ks → Option Ks) : ∀ {A : List En}, GdE A → ∀ {C : List En}, GdE C → ap (fm f (can A)) C = ap (fm f A) C
  | [], _, _, _ => rfl
  | x :: A, h, C, hC => by
    have h' := GdE.cons.1 h
    show ap (fm f (ins x (can A))) C = _
    rw [ap_fm_ins f h'.1 hC (can_gd h'.2), fm_cons, fm_cons]
    cases f x.1 with
    | none => exact can_fm f h'.2 hC
    | some k =>
      show ins _ (ap _ C) = ins _ (ap _ C)
      rw [can_fm f h'.2 hC]
/-- In order, each key once. -/
def SrtE (L : List En) : Prop := (keysE L).Pairwise ltK
theorem SrtE.cons {x : En} {L : List En} : SrtE (x :: L) ↔ (∀ y ∈ L, ltK x.1 y.1) ∧ SrtE L := by
  unfold SrtE keysE
  rw [List.map_cons, List.pairwise_cons]
  simp
theorem SrtE.nil : SrtE [] := List.Pairwise.nil
theorem ins_mem {x y : En} : ∀ {L : List En}, y ∈ ins x L → y.1 = x.1 ∨ ∃ z ∈ L, y.1 = z.1
  | [], h => by unfold ins at h; simp at h; exact .inl (by rw [h])
  | z :: L, h => by
    rcases ltK_tri x.1 z.1 with h1 | h1 | h1
    · rw [ins_lt h1] at h
      rcases List.mem_cons.1 h with rfl | h
      · exact .inl rfl
      · exact .inr ⟨y, h, rfl⟩
    · rw [ins_eq h1] at h
      rcases List.mem_cons.1 h with rfl | h
      · exact .inl h1.symm
      · exact .inr ⟨y, List.mem_cons_of_mem _ h, rfl⟩
    · rw [ins_gt h1] at h
      rcases List.mem_cons.1 h with rfl | h
      · exact .inr ⟨y, List.mem_cons_self .., rfl⟩
      · rcases ins_mem h with h | ⟨u, hu, e⟩
        · exact .inl h
        · exact .inr ⟨u, List.mem_cons_of_mem _ hu, e⟩
theorem ins_srt {x : En} : ∀ {L : List En}, SrtE L → SrtE (ins x L)
  | [], _ => SrtE.cons.2 ⟨fun _ h => (by cases h), SrtE.nil⟩
  | z :: L, h => by
    have h' := SrtE.cons.1 h
    rcases ltK_tri x.1 z.1 with h1 | h1 | h1
    · rw [ins_lt h1]
      refine SrtE.cons.2 ⟨fun y hy => ?_, h⟩
      rcases List.mem_cons.1 hy with rfl | hy
      · exact h1
      · exact ltK_trans h1 (h'.1 y hy)
    · rw [ins_eq h1]; exact SrtE.cons.2 ⟨h'.1, h'.2⟩
    · rw [ins_gt h1]
      refine SrtE.cons.2 ⟨fun y hy => ?_, ins_srt h'.2⟩
      rcases ins_mem hy with e | ⟨u, hu, e⟩
      · rw [e]; exact h1
      · rw [e]; exact h'.1 u hu
theorem ap_srt {L : List En} (h : SrtE L) : ∀ (A : List En), SrtE (ap A L)
  | [] => h
  | _ :: A => ins_srt (ap_srt h A)
theorem can_srt (A : List En) : SrtE (can A) := ap_srt SrtE.nil A
theorem can_mem {y : En} : ∀ {A : List En}, y ∈ can A → ∃ z ∈ A, y.1 = z.1
  | [], h => by cases h
  | x :: A, h => by
    rcases ins_mem (show y ∈ ins x (can A) from h) with e | ⟨u, hu, e⟩
    · exact ⟨x, List.mem_cons_self .., e⟩
    · obtain ⟨z, hz, e2⟩ := can_mem hu
      exact ⟨z, List.mem_cons_of_mem _ hz, e.trans e2⟩
theorem ins_len (x : En) : ∀ L : List En, (ins x L).length ≤ L.length + 1
  | [] => by simp [ins]
  | z :: L => by
    unfold ins
    split
    · simp
    · split
      · simp
      · have := ins_len x L; simp; omega
theorem can_len : ∀ A : List En, (can A).length ≤ A.length
  | [] => by simp [can, ap]
  | x :: A => by
    have h1 := ins_len x (can A)
    have h2 := can_len A
    show (ins x (can A)).length ≤ _
    simp; omega
/-- What is in order is as it was. -/
theorem can_id : ∀ {L : List En}, SrtE L → can L = L
  | [], _ => rfl
  | x :: L, h => by
    have h' := SrtE.cons.1 h
    show ins x (can L) = x :: L
    rw [can_id h'.2]
    match L, h'.1 with
    | [], _ => rfl
    | y :: L, h2 => exact ins_lt (h2 y (List.mem_cons_self ..))
theorem SrtE.snoc {L : List En} {x : En} (h : SrtE (L ++ [x])) : ∀ y ∈ L, ltK y.1 x.1 := by
  unfold SrtE keysE at h
  rw [List.map_append, List.pairwise_append] at h
  intro y hy
  exact h.2.2 y.1 (List.mem_map.2 ⟨y, hy, rfl⟩) x.1 (by simp)
end Go.Proofs.Ytoenijflijfogaa

/- What the fixed calls of layer 3's 'alive' come to: true. -/
namespace Go.Proofs.Ytoenijflijfogaa
open Go.RowKit

end Go.Proofs.Ytoenijflijfogaa

/- Plain arithmetic: times of one bucket. -/
namespace Go.Proofs.Ytoenijflijfogaa
open Go.RowKit

theorem fl_eq (t s : Int) : t - t % s = s * (t / s) := by have := Int.emod_add_mul_ediv t s; omega
theorem endF_quot (t s : Int) : endF t s = s * (t / s) + s := by unfold endF; rw [fl_eq]
theorem quot_up {t u s S : Int} (h1 : 1 ≤ s) (hd : S % s = 0) (h : t / s = u / s) : t / S = u / S := by
  obtain ⟨c, hc⟩ := Int.dvd_of_emod_eq_zero hd
  rw [hc, ← Int.ediv_ediv_of_nonneg (by omega), ← Int.ediv_ediv_of_nonneg (by omega), h]
theorem quot_all {R : Rl} (hR : RightP R) {t u : Int} {K : Nat} (h : t / R.sz K = u / R.sz K) : ∀ d, K + d < R.len → t / R.sz (K + d) = u / R.sz (K + d) := by
  intro d
  induction d with
  | zero => intro _; exact h
  | succ d ih =>
    intro hd
    obtain ⟨f1, f2, f3, _⟩ := fol_facts hR (j := K + d) (by omega)
    exact quot_up f1 f3 (ih (by omega))
theorem quot_ge {R : Rl} (hR : RightP R) {t u : Int} {K : Nat} (h : t / R.sz K = u / R.sz K) {j : Nat} (hj : K ≤ j) (hl : j < R.len) : t / R.sz j = u / R.sz j := by
  have := quot_all hR h (j - K) (by omega)
  rw [show K + (j - K) = j by omega] at this
  exact this
theorem end_same {R : Rl} (hR : RightP R) {t u : Int} {K : Nat} (h : t / R.sz K = u / R.sz K) {j : Nat} (hj : K ≤ j) (hl : j < R.len) : endF t (R.sz j) = endF u (R.sz j) := by
  rw [endF_quot, endF_quot, quot_ge hR h hj hl]
theorem step_same {R : Rl} (hR : RightP R) {t u w : Int} {K : Nat} (hK : IsStep R t w K) (h : t / R.sz K = u / R.sz K) : IsStep R u w K := by
  refine ⟨hK.1, ?_, fun j h1 h2 hc => hK.2.2 j h1 h2 ?_⟩
  · rcases hK.2.1 with h0 | h0
    · exact .inl h0
    · right; unfold cnd at *; rw [← end_same hR h (Nat.le_refl _) hK.1]; exact h0
  · unfold cnd at *; rw [end_same hR h (by omega) h2]; exact hc
theorem in_bucket {t s y : Int} (h1 : 1 ≤ s) (y1 : 0 ≤ y) (y2 : y < s) : (t - t % s + y) / s = t / s := by
  rw [fl_eq, Int.mul_comm, Int.add_comm, Int.add_mul_ediv_right _ _ (by omega), Int.ediv_eq_zero_of_lt y1 y2]; omega
theorem fl_same {t u s : Int} (h : t / s = u / s) : t - t % s = u - u % s := by rw [fl_eq, fl_eq, h]
end Go.Proofs.Ytoenijflijfogaa

/- Texts that a slice reads, whoever made it; keys as arguments. -/
namespace Go.Proofs.Ytoenijflijfogaa
open Go.ChangeShapes Go.WideShapes Go.ChangeAt Go.RowKit Go.Joins

/-- A slice value reads these texts. -/
def SReads (w : World) (v : Value) (L : List ByteArray) : Prop :=
  (L = [] ∧ ∃ a cap, v = .slice a 0 cap ∧ (a = none → cap = 0)) ∨
  ∃ b off cap, v = .slice (some ⟨b, off, none⟩) L.length cap ∧ 0 < L.length ∧ L.length ≤ cap ∧ cap ≤ maxLen ∧ b < w.heap.size ∧ (∀ j (h : j < L.length), w.cell? ⟨b, off + j, none⟩ = some (.string L[j])) ∧ ∀ s ∈ L, s.size ≤ maxLen
theorem SReads.below {w w' : World} {v : Value} {L : List ByteArray} (h : SReads w v L) (hb : Below w.heap.size w w') : SReads w' v L := by
  rcases h with h | ⟨b, off, cap, h1, h2, h3, h4, h5, h6, h7⟩
  · exact .inl h
  · have := hb.size
    exact .inr ⟨b, off, cap, h1, h2, h3, h4, by omega, fun j hj => (hb.cell (p := ⟨b, off + j, none⟩) h5).trans (h6 j hj), h7⟩
theorem SReads.form {w : World} {v : Value} {L : List ByteArray} (h : SReads w v L) : ∃ a cap, v = .slice a L.length cap ∧ L.length ≤ maxLen := by
  rcases h with ⟨rfl, a, cap, h, _⟩ | ⟨b, off, cap, h1, h2, h3, h4, h5, h6, h7⟩
  · exact ⟨a, cap, h, by simp⟩
  · exact ⟨_, cap, h1, by omega⟩
theorem SReads.at {w : World} {a : Option Addr} {n cap : Nat} {L : List ByteArray} (h : SReads w (.slice a n cap) L) (j : Nat) (hj : j < L.length) : ∃ b off, a = some ⟨b, off, none⟩ ∧ b < w.heap.size ∧ w.cell? ⟨b, off + j, none⟩ = some (.string L[j]) := by
  rcases h with ⟨rfl, _⟩ | ⟨b, off, cap', hv, h2, h3, h4, h5, h6, h7⟩
  · simp at hj
  · simp at hv
    exact ⟨b, off, hv.1, h5, h6 j hj⟩
theorem SReads.size {w : World} {v : Value} {L : List ByteArray} (h : SReads w v L) : ∀ s ∈ L, s.size ≤ maxLen := by
  rcases h with ⟨rfl, _⟩ | ⟨_, _, _, _, _, _, _, _, _, h7⟩
  · intro s hs; simp at hs
  · exact h7
/-- A key: its dimensions' slice, when it begins, how coarse it is. -/
structure Ky where
  v : Value
  L : List ByteArray
  f : Int
  g : Int
def Ky.val (k : Ky) : Value := .agg #[k.v, .int .i64 k.f, .int .i64 k.g]
/-- It lies there. -/
structure KLies (k : Ky) (w : World) : Prop where
  r : SReads w k.v k.L
  f1 : -9223372036854775808 ≤ k.f
  f2 : k.f ≤ 9223372036854775807
  g1 : -9223372036854775808 ≤ k.g
  g2 : k.g ≤ 9223372036854775807
theorem KLies.below {k : Ky} {w w' : World} (h : KLies k w) (hb : Below w.heap.size w w') : KLies k w' := ⟨h.r.below hb, h.f1, h.f2, h.g1, h.g2⟩
end Go.Proofs.Ytoenijflijfogaa
