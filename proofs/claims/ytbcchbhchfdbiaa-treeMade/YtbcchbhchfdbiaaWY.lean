import Derived.Test.YtbcchbhchfdbiaaWX
namespace Go.Proofs.Ytbcchbhchfdbiaa
open Go.RowKit Go.Shelf
/-- The tree, as the pure theory speaks of it. -/
def ptOf {P n : Nat} {L : List Nd} (hT : GT P n L (kd L)) : PT where
  N := n
  kids a := (List.range (ndAt L a).k.ln).map (kd L a)
  pl a := (ndAt L a).pl.toNat
  pay a who := nth (ndAt L a).p.ints who
  later a ha k hk := by
    obtain ⟨t, ht, rfl⟩ := List.mem_map.1 hk
    have ht' := List.mem_range.1 ht
    exact ⟨hT.pos a ha t, hT.klt a ha t ht'⟩
def fOf (ge : Nat → Sl) (a who : Nat) : Int := nth (ge a).ints who
section
variable {P n : Nat} {L : List Nd}
theorem pt_kids_nil {hT : GT P n L (kd L)} {a : Nat} : (ptOf hT).kids a = [] ↔ (ndAt L a).k.ln = 0 := by
  show (List.range _).map _ = [] ↔ _
  rw [List.map_eq_nil_iff, List.range_eq_nil]
theorem pt_kids_at {hT : GT P n L (kd L)} {a v : Nat} (h : v < (ndAt L a).k.ln) : ((ptOf hT).kids a)[v]? = some (kd L a v) := by
  show ((List.range _).map _)[v]? = _
  rw [List.getElem?_map, List.getElem?_range h]; rfl
theorem pt_kids_mem {hT : GT P n L (kd L)} {a k : Nat} : k ∈ (ptOf hT).kids a ↔ ∃ t, t < (ndAt L a).k.ln ∧ k = kd L a t := by
  show k ∈ (List.range _).map _ ↔ _
  rw [List.mem_map]
  exact ⟨fun ⟨t, h1, h2⟩ => ⟨t, List.mem_range.1 h1, h2.symm⟩, fun ⟨t, h1, h2⟩ => ⟨t, List.mem_range.2 h1, h2.symm⟩⟩
theorem done_sett (hT : GT P n L (kd L)) {CH : Nat → (Nat → List Int) → Nat → Prop} {ch : Nat → Int} {ge : Nat → Sl} (h : Done L n 0 CH (kd L) ch ge) : Sett (ptOf hT) (fun j => (ch j).toNat) (fOf ge) := by
  intro a ha
  have ha' : a < n := ha
  refine ⟨fun e => ?_, fun e => ?_⟩
  · have h1 := ((h a (Nat.zero_le _) ha').1 (pt_kids_nil.1 e)).2
    funext who
    show nth (ge a).ints who = nth (ndAt L a).p.ints who
    rw [h1]
  · obtain ⟨v, v1, v2, v3, v4⟩ := (h a (Nat.zero_le _) ha').2 (by have : ¬ (ndAt L a).k.ln = 0 := fun q => e (pt_kids_nil.2 q); omega)
    refine ⟨kd L a v, ?_, ?_⟩
    · dsimp only
      rw [v1, Int.toNat_natCast]
      exact pt_kids_at v2
    · funext who
      show nth (ge a).ints who = nth (ge (kd L a v)).ints who
      rw [v4]
theorem sett_same (hT : GT P n L (kd L)) {c c' : Nat → Nat} {f : Nat → Nat → Int} (h : Sett (ptOf hT) c f) (e : ∀ a, a < n → 0 < (ndAt L a).k.ln → c a = c' a) : Sett (ptOf hT) c' f := by
  intro a ha
  have ha' : a < n := ha
  refine ⟨(h a ha).1, fun hne => ?_⟩
  rw [← e a ha' (by have : ¬ (ndAt L a).k.ln = 0 := fun q => hne (pt_kids_nil.2 q); omega)]
  exact (h a ha).2 hne
theorem done_c (hT : GT P n L (kd L)) {q : List Int} {ch : Nat → Int} {ge : Nat → Sl} (h : Done L n 0 (CHC q) (kd L) ch ge) : Sett (ptOf hT) (fun j => (nth q j).toNat) (fOf ge) := by
  refine sett_same hT (done_sett hT h) (fun a ha hk => ?_)
  obtain ⟨v, v1, v2, v3, v4⟩ := (h a (Nat.zero_le _) ha).2 hk
  unfold CHC at v3
  (try dsimp only)
  rw [v1, v3]
theorem mst_most (hT : GT P n L (kd L)) {a who : Nat} {ge : Nat → Sl} (hk : 0 < (ndAt L a).k.ln) : Most ((ptOf hT).kids a) (fOf ge) who (mst (fun i => nth (ge (kd L a i)).ints who) (ndAt L a).k.ln) := by
  have hm := mst_lt (u := fun i => nth (ge (kd L a i)).ints who) (ndAt L a).k.ln hk
  obtain ⟨s1, s2⟩ := mst_spec (u := fun i => nth (ge (kd L a i)).ints who) (ndAt L a).k.ln
  refine ⟨_, pt_kids_at hm, fun x hx => ?_, fun j x hj hx => ?_⟩
  · obtain ⟨t, t1, rfl⟩ := pt_kids_mem.1 hx
    exact s1 t t1
  · rw [pt_kids_at (by omega)] at hx
    cases hx
    exact s2 j hj
theorem done_w (hT : GT P n L (kd L)) {q : List Int} {who : Nat} {cw : Nat → Int} {gw : Nat → Sl} (h : Done L n 0 (CHW L q who) (kd L) cw gw) : Bett (ptOf hT) (fun j => (nth q j).toNat) who (fun j => (cw j).toNat) (fOf gw) := by
  refine ⟨done_sett hT h, fun a ha hne => ?_⟩
  have ha' : a < n := ha
  have hk : 0 < (ndAt L a).k.ln := by have : ¬ (ndAt L a).k.ln = 0 := fun q => hne (pt_kids_nil.2 q); omega
  obtain ⟨v, v1, v2, v3, v4⟩ := (h a (Nat.zero_le _) ha').2 hk
  have hmv := hT.mover a ha' hk
  refine ⟨fun e => ?_, fun e => ?_⟩
  · have e' : (ndAt L a).pl.toNat = who := e
    have := v3.1 (by omega)
    (try dsimp only)
    rw [v1, Int.toNat_natCast, this]
    exact mst_most hT hk
  · have e' : (ndAt L a).pl.toNat ≠ who := e
    have := v3.2 (by omega)
    (try dsimp only)
    rw [v1, this]
/-- Nobody gets more by any other choices, just if nobody does by one. -/
theorem perf_sing (hT : GT P n L (kd L)) {q : List Int} {ch ch2 : Nat → Int} {ge ge2 : Nat → Sl} {gw : Nat → Nat → Sl} (h : Done L n 0 (CHC q) (kd L) ch ge) (h2 : Done L n 0 (CHC q) (kd L) ch2 ge2) (hw : ∀ who : Nat, (who : Int) < (P : Int) → ∃ cw, Done L n 0 (CHW L q who) (kd L) cw (gw who)) :
    (∀ i x : Nat, i < n → (x : Int) < (P : Int) → ¬ Bad2 ge gw i x) ↔ (∀ j i : Nat, j < n → i < (ndAt L j).k.ln → ¬ Bad1 L ge2 j i) := by
  have hf := done_c hT h
  have hf2 := done_c hT h2
  have he := Sett.uniq hf hf2
  constructor
  · intro hall
    have hs : Sing (ptOf hT) (fOf ge) := by
      refine le_sing hf (fun who => ?_)
      by_cases hp : who < P
      · obtain ⟨cw, hd⟩ := hw who (by omega)
        refine ⟨_, _, done_w hT hd, fun a ha => ?_⟩
        have := hall a who ha (by omega)
        unfold Bad2 at this
        show nth (gw who a).ints who ≤ nth (ge a).ints who
        omega
      · refine ⟨_, _, ⟨hf, fun a ha hne => ⟨fun e => ?_, fun _ => rfl⟩⟩, fun a ha => Int.le_refl _⟩
        have hmv := hT.mover a ha (by have : ¬ (ndAt L a).k.ln = 0 := fun q => hne (pt_kids_nil.2 q); omega)
        have e' : (ndAt L a).pl.toNat = who := e
        omega
    intro j i hj hi hb
    have := hs j hj (kd L j i) (pt_kids_mem.2 ⟨i, hi, rfl⟩)
    rw [he j hj, he _ (hT.klt j hj i hi)] at this
    unfold Bad1 at hb
    have hthis : nth (ge2 (kd L j i)).ints (ndAt L j).pl.toNat ≤ nth (ge2 j).ints (ndAt L j).pl.toNat := this
    omega
  · intro hall i x hi hx hb
    have hs : Sing (ptOf hT) (fOf ge) := by
      intro a ha k hk
      have ha' : a < n := ha
      obtain ⟨t, t1, rfl⟩ := pt_kids_mem.1 hk
      have := hall a t ha' t1
      unfold Bad1 at this
      rw [he a ha, he _ (hT.klt a ha' t t1)]
      show nth (ge2 (kd L a t)).ints (ndAt L a).pl.toNat ≤ nth (ge2 a).ints (ndAt L a).pl.toNat
      omega
    obtain ⟨cw, hd⟩ := hw x hx
    have := sing_le hf (done_w hT hd) hs i hi
    unfold Bad2 at hb
    have hthis : nth (gw x i).ints x ≤ nth (ge i).ints x := this
    omega
/-- What is chosen from the end back is perfect. -/
theorem back_perf (hT : GT P n L (kd L)) {q : List Int} {ch ch2 : Nat → Int} {ge ge2 : Nat → Sl} {gw : Nat → Nat → Sl} (hb : Done L n 0 (CHB L) (kd L) ch ge) (hq : ∀ j, j < n → nth q j = ch j) (h2 : Done L n 0 (CHC q) (kd L) ch2 ge2) (hw : ∀ who : Nat, (who : Int) < (P : Int) → ∃ cw, Done L n 0 (CHW L q who) (kd L) cw (gw who)) :
    ∀ i x : Nat, i < n → (x : Int) < (P : Int) → ¬ Bad2 ge2 gw i x := by
  refine (perf_sing hT h2 h2 hw).2 ?_
  have hf2 := done_c hT h2
  have hf := sett_same hT (c' := fun j => (nth q j).toNat) (done_sett hT hb) (fun a ha _ => by (try dsimp only); rw [hq a ha])
  have he := Sett.uniq hf hf2
  have hs := back_sing hf (fun a ha hne => by
    have ha' : a < n := ha
    have hk : 0 < (ndAt L a).k.ln := by have : ¬ (ndAt L a).k.ln = 0 := fun q => hne (pt_kids_nil.2 q); omega
    obtain ⟨v, v1, v2, v3, v4⟩ := (hb a (Nat.zero_le _) ha').2 hk
    (try dsimp only)
    rw [hq a ha', v1, Int.toNat_natCast]
    unfold CHB at v3
    rw [v3]
    exact mst_most hT hk)
  intro j i hj hi hbad
  have := hs j hj (kd L j i) (pt_kids_mem.2 ⟨i, hi, rfl⟩)
  rw [he j hj, he _ (hT.klt j hj i hi)] at this
  unfold Bad1 at hbad
  have hthis : nth (ge2 (kd L j i)).ints (ndAt L j).pl.toNat ≤ nth (ge2 j).ints (ndAt L j).pl.toNat := this
  omega
/-- What Backward chooses may be. -/
theorem back_ok {ch : Nat → Int} {ge : Nat → Sl} {CH : Nat → (Nat → List Int) → Nat → Prop} {q : List Int} (h : Done L n 0 CH (kd L) ch ge) (hq : ∀ j, j < n → nth q j = ch j) : ChOk L n q := by
  intro j hj
  rw [hq j hj]
  by_cases e : (ndAt L j).k.ln = 0
  · have := ((h j (Nat.zero_le _) hj).1 e).1
    omega
  · obtain ⟨v, v1, v2, v3, v4⟩ := (h j (Nat.zero_le _) hj).2 (by omega)
    omega
theorem mcE_good {Q : Int} {q : List Int} (h : tmE Q n L = 0) (hl : q.length = n) (hc : ChOk L n q) : mcE Q n L q = 0 := mcE_0 h hl (fun j hj hb => by
  have := hc j hj
  unfold BadC at hb
  omega)
end
theorem RowI.ints {W : World} {g n : Nat} {f : Nat → Int} (h : RowI W g n f) (hn : n ≤ 1000) : Ints W (some ⟨g, 0, none⟩) n n (lF n f) := by
  refine ⟨(lF_len n f).symm, Nat.le_refl _, by unfold maxLen; omega, .inr ⟨g, 0, rfl, h.1, fun j hj => ?_⟩⟩
  rw [Nat.zero_add, (h.2 j hj).1]
  have := lF_at (f := f) hj
  unfold nth at this
  rw [this]
end Go.Proofs.Ytbcchbhchfdbiaa
