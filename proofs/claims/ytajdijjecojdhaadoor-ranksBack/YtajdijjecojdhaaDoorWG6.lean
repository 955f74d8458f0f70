import Derived.Test.YtajdijjecojdhaaDoorWNH
namespace Go.Proofs.YtajdijjecojdhaaDoor
open Go.RowKit
/-- A list of likes, as it lies. -/
structure Tr where
  la : Option Addr
  ln : Nat
  lc : Nat
  L : List Int
def nilT : Tr := ⟨none, 0, 0, []⟩
def agT (p : Ent × Tr) : Ag := ⟨p.1.name, p.1.room, p.2.la, p.2.ln, p.2.lc, p.2.L⟩
def sidT (b : Bool) (all : List Ent) (T : List Tr) : List Ag := ((all.zip (T ++ List.replicate (all.length - T.length) nilT)).filter (fun p => p.1.left == b)).map agT
theorem zip_len (b : Bool) : ∀ (pre : List Ent) (T : List Tr), T.length = pre.length → ((pre.zip T).filter (fun p => p.1.left == b)).length = (sideE b pre).length
  | [], T, _ => by simp [sideE]
  | e :: pre, [], h => by simp at h
  | e :: pre, t :: T, h => by
    have := zip_len b pre T (by simpa using h)
    unfold sideE at this ⊢
    simp only [List.zip_cons_cons, List.filter_cons]
    cases (e.left == b) <;> simp [this]
theorem sid_nil (b : Bool) (all : List Ent) : sidT b all [] = (sideE b all).map agE0 := by
  unfold sidT sideE
  simp only [List.nil_append, List.length_nil, Nat.sub_zero]
  induction all with
  | nil => rfl
  | cons e l ih =>
    simp only [List.length_cons, List.replicate_succ, List.zip_cons_cons, List.filter_cons]
    cases h : (e.left == b)
    · simpa using ih
    · simp only [if_true, List.map_cons, ih]
      rfl
theorem sid_at (b : Bool) (pre post : List Ent) (e : Ent) (T : List Tr) (h : T.length = pre.length) : sidT b (pre ++ e :: post) T = ((pre.zip T).filter (fun p => p.1.left == b)).map agT ++ (((e, nilT) :: post.zip (List.replicate post.length nilT)).filter (fun p => p.1.left == b)).map agT := by
  unfold sidT
  have hl : (pre ++ e :: post).length - T.length = post.length + 1 := by simp; omega
  rw [hl, List.replicate_succ, List.zip_append h.symm, List.zip_cons_cons, List.filter_append, List.map_append]
theorem sid_next (b : Bool) (pre post : List Ent) (e : Ent) (T : List Tr) (t : Tr) (h : T.length = pre.length) : sidT b (pre ++ e :: post) (T ++ [t]) = ((pre.zip T).filter (fun p => p.1.left == b)).map agT ++ (((e, t) :: post.zip (List.replicate post.length nilT)).filter (fun p => p.1.left == b)).map agT := by
  unfold sidT
  have hl : (pre ++ e :: post).length - (T ++ [t]).length = post.length := by simp; omega
  rw [hl, List.append_assoc, List.singleton_append, List.zip_append h.symm, List.zip_cons_cons, List.filter_append, List.map_append]
theorem sid_other (b : Bool) (pre post : List Ent) (e : Ent) (T : List Tr) (t : Tr) (h : T.length = pre.length) (hb : e.left ≠ b) : sidT b (pre ++ e :: post) (T ++ [t]) = sidT b (pre ++ e :: post) T := by
  rw [sid_at b pre post e T h, sid_next b pre post e T t h]
  have hf : (e.left == b) = false := by simpa using hb
  simp [hf]
theorem sid_same (pre post : List Ent) (e : Ent) (T : List Tr) (t : Tr) (h : T.length = pre.length) : agAt (sidT e.left (pre ++ e :: post) T) (sideE e.left pre).length = agT (e, nilT) ∧ (sideE e.left pre).length < (sidT e.left (pre ++ e :: post) T).length ∧ sidT e.left (pre ++ e :: post) (T ++ [t]) = (sidT e.left (pre ++ e :: post) T).set (sideE e.left pre).length (agT (e, t)) := by
  rw [sid_at e.left pre post e T h, sid_next e.left pre post e T t h]
  have hl := zip_len e.left pre T h
  have hf : (e.left == e.left) = true := by simp
  simp only [List.filter_cons, hf, if_true, List.map_cons]
  have hl' : (((pre.zip T).filter (fun p => p.1.left == e.left)).map agT).length = (sideE e.left pre).length := by rw [List.length_map, hl]
  refine ⟨?_, ?_, ?_⟩
  · unfold agAt
    rw [List.getElem?_append_right (by omega), hl', Nat.sub_self]
    rfl
  · rw [List.length_append, hl', List.length_cons]; omega
  · rw [List.set_append_right _ _ (by omega), hl', Nat.sub_self]
    rfl
theorem sid_names (b : Bool) (all : List Ent) (T : List Tr) (h : T.length ≤ all.length) : (sidT b all T).map (·.name) = (sideE b all).map (·.name) := by
  unfold sidT sideE
  have key : ∀ (all : List Ent) (U : List Tr), U.length = all.length → ((all.zip U).filter (fun p => p.1.left == b)).map (fun p => p.1.name) = (all.filter (fun e => e.left == b)).map (·.name) := by
    intro all
    induction all with
    | nil => intro U _; rfl
    | cons e l ih =>
      intro U hU
      cases U with
      | nil => simp at hU
      | cons t U =>
        simp only [List.zip_cons_cons, List.filter_cons]
        cases (e.left == b)
        · simpa using ih U (by simpa using hU)
        · simp only [if_true, List.map_cons, ih U (by simpa using hU)]
  rw [List.map_map, ← key all (T ++ List.replicate (all.length - T.length) nilT) (by simp; omega)]
  rfl
theorem sid_len (b : Bool) (all : List Ent) (T : List Tr) (h : T.length ≤ all.length) : (sidT b all T).length = (sideE b all).length := by
  have := congrArg List.length (sid_names b all T h)
  simpa using this
theorem aidx_names {l l' : List Ag} {x : ByteArray} (h : l.map (·.name) = l'.map (·.name)) : ∀ (d k : Nat), l.length - k = d → aidxFrom l x k = aidxFrom l' x k
  | 0, k, hd => by
    have hl : l.length = l'.length := by have := congrArg List.length h; simpa using this
    rw [aidxFrom_end (by omega), aidxFrom_end (by omega)]
  | d + 1, k, hd => by
    have hl : l.length = l'.length := by have := congrArg List.length h; simpa using this
    have hk : k < l.length := by omega
    have e : (agAt l k).name = (agAt l' k).name := by
      have := congrArg (fun q => q[k]?) h
      simp only [List.getElem?_map] at this
      rw [List.getElem?_eq_getElem hk, List.getElem?_eq_getElem (by omega)] at this
      simp only [Option.map_some, Option.some.injEq] at this
      unfold agAt
      rw [List.getElem?_eq_getElem hk, List.getElem?_eq_getElem (by omega)]
      exact this
    rw [aidxFrom_step hk, aidxFrom_step (show k < l'.length by omega), e, aidx_names h d (k + 1) (by omega)]
theorem likeF_names {l l' : List Ag} (h : l.map (·.name) = l'.map (·.name)) : ∀ (ws : List ByteArray) (acc : List Int), likeF l acc ws = likeF l' acc ws
  | [], _ => rfl
  | x :: t, acc => by
    simp only [likeF]
    rw [aidx_names (x := x) h _ 0 rfl, likeF_names h t]
theorem lnS_at (e : Ent) (post : List Ent) : ∀ (pre p : List Ent), (lnS p (pre ++ e :: post))[pre.length]? = some (sdN e.left, (sideE e.left (p ++ pre)).length, e.likes)
  | [], p => by simp [lnS]
  | x :: pre, p => by
    have := lnS_at e post pre (p ++ [x])
    simpa [lnS] using this
theorem lnS_len : ∀ (all p : List Ent), (lnS p all).length = all.length
  | [], _ => rfl
  | e :: all, p => by simp [lnS, lnS_len all]
/-- How the reader lies while the likes are settled. -/
def RdS (R : Nat) (w : World) (all : List Ent) (vN : Value) (NL : List Ln) (T : List Tr) : Prop := ∃ aL cL aR cR, w.heap[R]? = some (.cells #[.slice aL (sideE true all).length cL, .slice aR (sideE false all).length cR, vN] 58 (0, 0)) ∧
  w.ownsRow (R + 1) 27 3 (.slice aL (sideE true all).length cL) (sideE true all).length (flat (sidT true all T)) ∧ w.ownsRow (R + 1) 27 3 (.slice aR (sideE false all).length cR) (sideE false all).length (flat (sidT false all T)) ∧
  Ap (.slice aL (sideE true all).length cL) (.slice aR (sideE false all).length cR) ∧ RowN (R + 1) w vN all.length NL ∧ NL.map (fun x => (x.side, x.place, x.ws)) = lnS [] all ∧ (∀ e ∈ all, e.name.size ≤ 12) ∧ ∀ t ∈ T, In3 w t.la t.ln t.lc t.L
theorem Rd.start {R : Nat} {w : World} {all : List Ent} (h : Rd R w all) : ∃ vN NL, RdS R w all vN NL [] := by
  obtain ⟨aL, cL, aR, cR, vN, NL, h1, h2, h3, h4, h5, h6, h7⟩ := h
  exact ⟨vN, NL, aL, cL, aR, cR, h1, by rw [sid_nil]; exact h2, by rw [sid_nil]; exact h3, h4, h5, h6, h7, fun t ht => by cases ht⟩
end Go.Proofs.YtajdijjecojdhaaDoor
namespace Go.Proofs.YtajdijjecojdhaaDoor
open Go.RowKit
theorem sid_in {w : World} {b : Bool} {all : List Ent} {T : List Tr} (hT : ∀ t ∈ T, In3 w t.la t.ln t.lc t.L) (hn : ∀ e ∈ all, e.name.size ≤ 12) : ∀ g ∈ sidT b all T, In3 w g.la g.ln g.lc g.likes ∧ g.name.size ≤ maxLen := by
  intro g hg
  obtain ⟨p, hp, rfl⟩ := List.mem_map.1 hg
  have hz := (List.mem_filter.1 hp).1
  obtain ⟨h1, h2⟩ := List.of_mem_zip hz
  refine ⟨?_, ?_⟩
  · rcases List.mem_append.1 h2 with q | q
    · exact hT _ q
    · have := (List.mem_replicate.1 q).2
      show In3 w p.2.la p.2.ln p.2.lc p.2.L
      rw [this]
      exact ⟨⟨rfl, Nat.le_refl _, by show (0 : Nat) ≤ maxLen; omega, .inl rfl⟩, .inl rfl⟩
  · have := hn _ h1
    show p.1.name.size ≤ maxLen
    unfold maxLen
    omega
theorem RdS.frame {R gS : Nat} {w w' : World} {vN : Value} {n : Nat} {NL : List Ln} (h : RowN (R + 1) w vN n NL) (hg : TB w 27 gS) (hs : w.heap.size ≤ w'.heap.size) (hf : ∀ b, b < w.heap.size → b ≠ gS → w'.heap[b]? = w.heap[b]?) : RowN (R + 1) w' vN n NL :=
  ⟨own_frame h.1 (fun b hb => hf b (h.1.lt b hb).2 ((own_tb h.1 hb).ne hg (by decide))), fun x hx => (h.2 x hx).block hs (fun b ht => hf b ht.lt (ht.ne hg (by decide)))⟩
set_option maxHeartbeats 1000000 in
theorem settle_step (R : Nat) (w : World) (all pre post : List Ent) (e : Ent) (vN : Value) (NL : List Ln) (T : List Tr) (hS : RdS R w all vN NL T) (hall : all = pre ++ e :: post) (hT : T.length = pre.length) (x : Ln) (hx : NL[pre.length]? = some x) (hln : e.likes.length ≤ 9000) :
    Calls Tryd.prog 30 #[.pointer (some ⟨R, 0, none⟩), .agg #[.int .i64 (x.side : Int), .int .i64 (x.place : Int), .slice x.wa x.wn x.wc]] w fun en w' => Below R w w' ∧ ((∃ k, likeF ((sideE (!e.left) all).map agE0) [] e.likes = .error k ∧ en = .panicked [{ v := thrown k, recovered := false }]) ∨ (∃ t : Tr, likeF ((sideE (!e.left) all).map agE0) [] e.likes = .ok t.L ∧ en = .returned (.tuple #[]) ∧ RdS R w' all vN NL (T ++ [t]))) := by
  obtain ⟨aL, cL, aR, cR, h1, h2, h3, h4, h5, h6, h7, h8⟩ := hS
  have hRw : R < w.heap.size := (Array.getElem?_eq_some_iff.1 h1).1
  have hTl : T.length ≤ all.length := by rw [hall]; simp; omega
  have hxx : (x.side, x.place, x.ws) = (sdN e.left, (sideE e.left pre).length, e.likes) := by
    have q := congrArg (fun l => l[pre.length]?) h6
    simp only [List.getElem?_map, hx, Option.map_some] at q
    rw [hall, lnS_at e post pre []] at q
    simpa using q
  obtain ⟨x1, x2, x3⟩ : x.side = sdN e.left ∧ x.place = (sideE e.left pre).length ∧ x.ws = e.likes := by simpa using hxx
  have hI9 := h5.2 x (List.mem_of_getElem? hx)
  have hwn : x.wn ≤ 9000 := by have := hI9.1.1; rw [this, x3]; exact hln
  have hnm : ∀ b, likeF ((sideE b all).map agE0) [] e.likes = likeF (sidT b all T) [] x.ws := fun b => by
    rw [x3]
    refine likeF_names ?_ _ _
    rw [sid_names b all T hTl, List.map_map]
    rfl
  have c0 := (cell_in' h1 0).1
  have c1 := (cell_in' h1 1).1
  simp only [List.getElem?_toArray, List.getElem?_cons_zero, List.getElem?_cons_succ] at c0 c1
  cases hel : e.left with
  | true =>
    obtain ⟨s1, s2, s3⟩ := sid_same pre post e T nilT hT
    have s3' := fun t => (sid_same pre post e T t hT).2.2
    have s4 := fun t => sid_other false pre post e T t hT (by rw [hel]; simp)
    rw [hel] at s1 s2 x1 x2
    simp only [hel] at s3'
    rw [← hall] at s1 s2
    simp only [← hall] at s3' s4
    have hlen := sid_len true all T hTl
    obtain ⟨gS, cS, hv⟩ := own64_slice h2 (by omega)
    have hv1 : aL = some ⟨gS, 0, none⟩ := by injection hv
    subst hv1
    have hgS : TB w 27 gS := own_tb h2 rfl
    have hgR : R + 1 ≤ gS := (h2.lt gS rfl).1
    have hside : x.side = 0 := by rw [x1]; rfl
    rw [hside, x2, show (!true) = false from rfl, hnm false]
    refine (settle_any R 0 1 (sideE true pre).length x.wa x.wn x.wc x.ws gS _ cL (sidT true all T) aR _ cR (sidT false all T) w rfl c0 c1 h2 h3 h4 (sid_in h8 h7) (by omega) (by rw [s1]; exact ⟨rfl, rfl, rfl⟩) hI9 hwn).mono ?_
    rintro en w' ⟨hb, hf, ⟨k, q1, q2⟩ | ⟨L, la, lc, q1, q2, q3, q4⟩⟩
    · exact ⟨hb, .inl ⟨k, q1, q2⟩⟩
    · refine ⟨hb, .inr ⟨⟨la, L.length, lc, L⟩, q1, q2, _, cL, aR, cR, (hf R hRw (by omega)).trans h1, ?_, ?_, h4, RdS.frame h5 hgS hb.size hf, h6, h7, fun t ht => ?_⟩⟩
      · rw [s3' ⟨la, L.length, lc, L⟩]
        rw [s1] at q3
        exact q3
      · rw [s4 ⟨la, L.length, lc, L⟩]
        refine own_frame h3 (fun b hbb => hf b (h3.lt b hbb).2 (fun q => ?_))
        rcases h4 with p | p
        · rw [p] at hbb; cases hbb
        · rw [hbb, q] at p; exact p rfl
      · rcases List.mem_append.1 ht with ht | ht
        · exact (h8 t ht).block hb.size (fun b hbt => hf b hbt.lt (hbt.ne hgS (by decide)))
        · rw [List.mem_singleton] at ht
          subst ht
          exact q4
  | false =>
    obtain ⟨s1, s2, s3⟩ := sid_same pre post e T nilT hT
    have s3' := fun t => (sid_same pre post e T t hT).2.2
    have s4 := fun t => sid_other true pre post e T t hT (by rw [hel]; simp)
    rw [hel] at s1 s2 x1 x2
    simp only [hel] at s3'
    rw [← hall] at s1 s2
    simp only [← hall] at s3' s4
    have hlen := sid_len false all T hTl
    obtain ⟨gS, cS, hv⟩ := own64_slice h3 (by omega)
    have hv1 : aR = some ⟨gS, 0, none⟩ := by injection hv
    subst hv1
    have hgS : TB w 27 gS := own_tb h3 rfl
    have hgR : R + 1 ≤ gS := (h3.lt gS rfl).1
    have hside : x.side = 1 := by rw [x1]; rfl
    rw [hside, x2, show (!false) = true from rfl, hnm true]
    refine (settle_any R 1 0 (sideE false pre).length x.wa x.wn x.wc x.ws gS _ cR (sidT false all T) aL _ cL (sidT true all T) w rfl c1 c0 h3 h2 h4.sym (sid_in h8 h7) (by omega) (by rw [s1]; exact ⟨rfl, rfl, rfl⟩) hI9 hwn).mono ?_
    rintro en w' ⟨hb, hf, ⟨k, q1, q2⟩ | ⟨L, la, lc, q1, q2, q3, q4⟩⟩
    · exact ⟨hb, .inl ⟨k, q1, q2⟩⟩
    · refine ⟨hb, .inr ⟨⟨la, L.length, lc, L⟩, q1, q2, aL, cL, _, cR, (hf R hRw (by omega)).trans h1, ?_, ?_, h4, RdS.frame h5 hgS hb.size hf, h6, h7, fun t ht => ?_⟩⟩
      · rw [s4 ⟨la, L.length, lc, L⟩]
        refine own_frame h2 (fun b hbb => hf b (h2.lt b hbb).2 (fun q => ?_))
        rcases h4.sym with p | p
        · rw [p] at hbb; cases hbb
        · rw [hbb, q] at p; exact p rfl
      · rw [s3' ⟨la, L.length, lc, L⟩]
        rw [s1] at q3
        exact q3
      · rcases List.mem_append.1 ht with ht | ht
        · exact (h8 t ht).block hb.size (fun b hbt => hf b hbt.lt (hbt.ne hgS (by decide)))
        · rw [List.mem_singleton] at ht
          subst ht
          exact q4
end Go.Proofs.YtajdijjecojdhaaDoor
