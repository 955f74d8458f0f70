import Derived.Test.YtffnhflbhckhbaaDoorProg
import Derived.ProofKit
import Derived.WalkKit
import Derived.OrdersIn
import Derived.StillTail
import Derived.CallsIn
import Derived.ControlIn
namespace Go.Proofs.YtffnhflbhckhbaaDoor
open Go.RowKit
/-- What each operation waits for. -/
def depsL (os : List Oper) : List (List Nat) := os.map (fun o => (o.after.toList.filter (Region.binds .any)).map (·.on))
def updB (l : Nat → Bool) (i : Nat) : Nat → Bool := fun j => if j = i then true else l j
/-- One step of a region that draws its order, whatever has come up, guards and all. -/
def StepI (F : Fence) (m : Nat) (P : Program) (ops : Array Oper) (Q : Exit → Act → World → Prop) (I : (Nat → Bool) → Act → World → Prop) (D : List (List Nat)) (i : Nat) (o : Oper) : Prop :=
  ∀ l a w, I l a w → l i = false → (∀ k, l k = true → ∀ j ∈ D.getD k [], l j = true) → (∀ j ∈ D.getD i [], l j = true) → if Region.wanted o (yielded ops a.tmps) = true then o.wpIn F m P a w (fun a' w' => I (updB l i) a' w') Q else (∀ f, o.about P w a.eval = some f → F.fn f) ∧ I (updB l i) (a.put o.dst undef) w
def StepsI (F : Fence) (m : Nat) (P : Program) (ops : Array Oper) (Q : Exit → Act → World → Prop) (I : (Nat → Bool) → Act → World → Prop) (D : List (List Nat)) : Nat → List Oper → Prop
  | _, [] => True
  | i, o :: rest => StepI F m P ops Q I D i o ∧ StepsI F m P ops Q I D (i + 1) rest
theorem StepsI.get {F : Fence} {m : Nat} {P : Program} {ops : Array Oper} {Q : Exit → Act → World → Prop} {I : (Nat → Bool) → Act → World → Prop} {D : List (List Nat)} : ∀ {os : List Oper} {k i : Nat} {o : Oper}, StepsI F m P ops Q I D k os → os[i]? = some o → StepI F m P ops Q I D (k + i) o
  | [], _, _, _, _, h => by simp at h
  | o :: rest, k, 0, o', hs, h => by simp at h; subst h; exact hs.1
  | o :: rest, k, i + 1, o', hs, h => by
    have := StepsI.get hs.2 (i := i) (o := o') (by simpa using h)
    rw [show k + (i + 1) = k + 1 + i by omega]
    exact this
theorem deps_get {os : List Oper} {i : Nat} {o : Oper} (h : os[i]? = some o) : (depsL os).getD i [] = (o.after.toList.filter (Region.binds .any)).map (·.on) := by
  unfold depsL
  simp [h]
theorem mem_deps {os : List Oper} {i : Nat} {o : Oper} (h : os[i]? = some o) {e : Edge} (he : e ∈ o.after) (hb : Region.binds .any e = true) : e.on ∈ (depsL os).getD i [] := by
  rw [deps_get h]
  exact List.mem_map.2 ⟨e, List.mem_filter.2 ⟨by simpa using he, hb⟩, rfl⟩
def cntF (n : Nat) (l : Nat → Bool) : Nat := ((List.range n).filter (fun i => !l i)).length
theorem cnt_upd {l : Nat → Bool} {i : Nat} (hi : l i = false) : ∀ n, cntF n l = cntF n (updB l i) + if i < n then 1 else 0
  | 0 => by simp [cntF]
  | n + 1 => by
    have ih := cnt_upd (l := l) hi n
    unfold cntF at *
    rw [List.range_succ, List.filter_append, List.filter_append, List.length_append, List.length_append, ih]
    by_cases e : n = i
    · subst e
      simp [updB, hi]
    · have : updB l i n = l n := by simp [updB, e]
      rw [show ([n].filter (fun i_1 => !updB l i i_1)) = ([n].filter (fun i => !l i)) by simp [List.filter_cons, this]]
      by_cases h1 : i < n
      · rw [if_pos h1, if_pos (by omega)]; omega
      · rw [if_neg h1, if_neg (by omega)]; omega
theorem cnt_zero {l : Nat → Bool} {n : Nat} (h : cntF n l = 0) (i : Nat) (hi : i < n) : l i = true := by
  unfold cntF at h
  have := List.eq_nil_of_length_eq_zero h
  have h2 := List.filter_eq_nil_iff.1 this i (List.mem_range.2 hi)
  simpa using h2
/-- A region that draws its order, by what holds of what has come up. -/
theorem wp_region_inv {F : Fence} {m : Nat} {P : Program} {id : Nat} {Q : Exit → Act → World → Prop} {a : Act} {w : World} {os : List Oper} (D : List (List Nat)) (I : (Nat → Bool) → Act → World → Prop) (hm : P.follows .mixedOrders = true) (hD : depsL os = D)
    (hB : ((List.range os.length).all (fun i => (D.getD i []).all (fun j => decide (j < i)))) = true) (h0 : I (fun _ => false) a w.drew) (hs : StepsI F m P os.toArray Q I D 0 os) (hd : ∀ l a w, I l a w → (∀ i, i < os.length → l i = true) → Q .normal a w) : (Code.region id os.toArray true).wpIn F m P Q a w := by
  subst hD
  refine wpIn_region_any hm ?_
  have hB' : ∀ i, i < os.length → ∀ j ∈ (depsL os).getD i [], j < i := fun i hi j hj => by
    have := List.all_eq_true.1 (List.all_eq_true.1 hB i (List.mem_range.2 hi)) j hj
    simpa using this
  have key : ∀ (fuel : Nat) (listed : Array Bool) (l : Nat → Bool) (a : Act) (w : World), listed.size = os.length → (∀ i, i < os.length → listed.getD i true = l i ∧ listed.getD i false = l i) → (∀ i, os.length ≤ i → l i = false) → cntF os.length l = fuel → (∀ k, l k = true → ∀ j ∈ (depsL os).getD k [], l j = true) → I l a w → wpAnyIn F m P .any os.toArray Q fuel listed a w := by
    intro fuel
    induction fuel with
    | zero =>
      intro listed l a w hsz hl hout hc hdn hI
      have hall := cnt_zero hc
      refine ⟨?_, hd l a w hI hall⟩
      refine List.eq_nil_iff_forall_not_mem.2 (fun i hi => ?_)
      obtain ⟨h1, o, ho, -⟩ := mem_ready.1 hi
      have hlt : i < os.length := by
        have := (Array.getElem?_eq_some_iff.1 ho).1
        simpa using this
      rw [(hl i hlt).1, hall i hlt] at h1
      cases h1
    | succ fuel ih =>
      intro listed l a w hsz hl hout hc hdn hI
      refine ⟨fun hr => ?_, fun i hi => ?_⟩
      · exfalso
        have hex : ∀ i, i < os.length → l i = true := by
          intro i
          induction i using Nat.strongRecOn with
          | ind i ihi =>
            intro hi
            cases hli : l i with
            | true => rfl
            | false =>
              exfalso
              have hm : i ∈ Region.ready .any os.toArray listed := by
                refine mem_ready.2 ⟨by rw [(hl i hi).1]; exact hli, os[i], by simp [hi], fun e he hb => ?_⟩
                have hlt := hB' i hi e.on (mem_deps (by simp [hi]) he hb)
                rw [(hl e.on (by omega)).2]
                exact ihi e.on hlt (by omega)
              rw [hr] at hm
              cases hm
        have : cntF os.length l = 0 := by
          unfold cntF
          rw [List.filter_eq_nil_iff.2 (fun i hi => by simp [hex i (List.mem_range.1 hi)])]
          rfl
        omega
      · obtain ⟨h1, o, ho, hall⟩ := mem_ready.1 hi
        have hoL : os[i]? = some o := by simpa using ho
        have hlt : i < os.length := (List.getElem?_eq_some_iff.1 hoL).1
        have hli : l i = false := by rw [← (hl i hlt).1]; exact h1
        have hdi : ∀ j ∈ (depsL os).getD i [], l j = true := fun j hj => by
          have hlj := hB' i hlt j hj
          rw [deps_get hoL] at hj
          obtain ⟨e, he, rfl⟩ := List.mem_map.1 hj
          obtain ⟨he1, he2⟩ := List.mem_filter.1 he
          have := hall e (by simpa using he1) he2
          rw [← (hl e.on (by omega)).2]
          exact this
        have hst := (StepsI.get hs hoL) l a w hI (by simpa using hli) hdn (by simpa using hdi)
        rw [Nat.zero_add] at hst
        suffices hnext : ∀ a' w', I (updB l i) a' w' → wpAnyIn F m P .any os.toArray Q fuel (listed.setIfInBounds i true) a' w' by
          unfold wpOpIn
          rw [ho]
          dsimp only
          by_cases hwn : Region.wanted o (yielded os.toArray a.tmps) = true
          · rw [if_pos hwn] at hst ⊢
            exact Oper.wpIn_mono (fun a' w' hI' => hnext a' w' hI') hst
          · rw [if_neg hwn] at hst ⊢
            exact ⟨hst.1, hnext _ _ hst.2⟩
        intro a' w' hI'
        refine ih _ (updB l i) a' w' (by simpa using hsz) (fun k hk => ?_) (fun k hk => ?_) ?_ (fun k hk j hj => ?_) hI'
        · by_cases e : k = i
          · subst e
            simp [updB, hsz, hlt]
          · rw [getD_set_ne true (Ne.symm e), getD_set_ne false (Ne.symm e)]
            simp only [updB, if_neg e]
            exact hl k hk
        · have : k ≠ i := by omega
          simp [updB, this, hout k hk]
        · have := cnt_upd hli os.length
          rw [if_pos hlt] at this
          omega
        · by_cases e : k = i
          · subst e
            have := hdi j hj
            unfold updB
            split
            · rfl
            · exact this
          · have hk' : l k = true := by simpa [updB, e] using hk
            have := hdn k hk' j hj
            unfold updB
            split
            · rfl
            · exact this
  refine key os.toArray.size _ (fun _ => false) a w.drew (by simp) (fun i hi => ?_) (fun _ _ => rfl) ?_ (fun k hk => (by cases hk)) h0
  · simp [hi]
  · unfold cntF
    simp
    rw [List.filter_eq_self.2 (fun _ _ => rfl)]
    simp
/-- An act, by what has changed. -/
theorem act_chain (S : List Nat) (a a0 : Act) (hd : a.defers = a0.defers) (hs : a.tmps.size = a0.tmps.size) (ho : ∀ s, s ∉ S → a.tmps[s]? = a0.tmps[s]?) : a = S.foldl (fun b s => b.put (some s) (a.tmps.getD s undef)) a0 := by
  have key : ∀ (S : List Nat) (b : Act), b.defers = a0.defers → b.tmps.size = a0.tmps.size → (∀ s, s ∉ S → a.tmps[s]? = b.tmps[s]?) → a = S.foldl (fun b s => b.put (some s) (a.tmps.getD s undef)) b := by
    intro S
    induction S with
    | nil =>
      intro b h1 h2 h3
      have ht : a.tmps = b.tmps := Array.ext_getElem? (fun i => h3 i (by simp))
      cases a
      cases b
      simp only at ht h1 hd
      subst ht
      rw [List.foldl_nil]
      congr 1
      exact hd.trans h1.symm
    | cons s S ih =>
      intro b h1 h2 h3
      rw [List.foldl_cons]
      refine ih _ (by simpa [Act.put] using h1) (by simpa [Act.put] using h2) (fun t ht => ?_)
      by_cases e : t = s
      · subst e
        simp only [Act.put]
        rcases Nat.lt_or_ge t b.tmps.size with h | h
        · rw [Array.getElem?_setIfInBounds_self_of_lt h]
          have h' : t < a.tmps.size := by omega
          simp [h']
        · rw [Array.getElem?_eq_none (by omega), Array.getElem?_eq_none (by simp; omega)]
      · simp only [Act.put]
        rw [Array.getElem?_setIfInBounds_ne (Ne.symm e)]
        exact h3 t (by simp [e, ht])
  exact key S a0 rfl rfl ho
def updV (vals : Nat → Value) (i : Nat) (v : Value) : Nat → Value := fun j => if j = i then v else vals j
/-- What has come up into a slot. -/
def lookV (vals : Nat → Value) (l : Nat → Bool) : Nat → List (Option Tmp) → Tmp → Option Value
  | _, [], _ => none
  | k, x :: rest, s => if x = some s ∧ l k = true then some (vals k) else lookV vals l (k + 1) rest s
def evV (ds : List (Option Tmp)) (l : Nat → Bool) (vals : Nat → Value) (t0 : Array Value) : Operand → Value
  | .tmp s => (lookV vals l 0 ds s).getD (t0.getD s undef)
  | .const v => v
  | .global g => .pointer (some ⟨g, 0, none⟩)
  | .func f => .func (.func f) #[] #[]
def upV (F : Fence) (m : Nat) (P : Program) (K : Value → World → Prop) : Result Next → Prop
  | .ok (.value v) w' => K v w'
  | .ok .skip w' => K undef w'
  | .ok (.enter f args) w' => CallsIn F (m - 1) P f args w' fun e w'' => ∃ v, e = .returned v ∧ K v w''
  | .ok (.round l f tmps assign body) w' => RoundIn F (m - 1) P l f tmps assign body w' fun e w'' => ∃ v, e = .returned v ∧ K v w''
  | _ => False
def isB (v : Value) (b : Bool) : Bool := match v with
  | .bool x => x == b
  | _ => false
/-- Whether an operation is wanted, by what has come up. -/
def wantV (o : Oper) (vals : Nat → Value) : Bool := match o.guard with
  | none => true
  | some (j, b) => isB (vals j) b
def StepV (F : Fence) (m : Nat) (P : Program) (J : (Nat → Bool) → (Nat → Value) → World → Prop) (D : List (List Nat)) (ds : List (Option Tmp)) (t0 : Array Value) (i : Nat) (o : Oper) : Prop :=
  ∀ l vals w, J l vals w → l i = false → (∀ k, l k = true → ∀ j ∈ D.getD k [], l j = true) → (∀ j ∈ D.getD i [], l j = true) →
    (∀ c, o.op ≠ .defer c) ∧ (wantV o vals = true → upV F m P (fun v w' => J (updB l i) (updV vals i v) w') ((execOp (evV ds l vals t0) o).run P w)) ∧ (wantV o vals = false → J (updB l i) (updV vals i undef) w)
def StepsV (F : Fence) (m : Nat) (P : Program) (J : (Nat → Bool) → (Nat → Value) → World → Prop) (D : List (List Nat)) (ds : List (Option Tmp)) (t0 : Array Value) : Nat → List Oper → Prop
  | _, [] => True
  | i, o :: rest => StepV F m P J D ds t0 i o ∧ StepsV F m P J D ds t0 (i + 1) rest
def dstB : List (Option Tmp) → Bool
  | [] => true
  | none :: r => dstB r
  | some s :: r => !r.contains (some s) && dstB r
theorem dst_one : ∀ {ds : List (Option Tmp)}, dstB ds = true → ∀ {i j : Nat} {s : Tmp}, ds[i]? = some (some s) → ds[j]? = some (some s) → i = j
  | [], _, i, j, s, h, _ => by simp at h
  | none :: r, hd, i, j, s, hi, hj => by
    cases i with
    | zero => simp at hi
    | succ i =>
      cases j with
      | zero => simp at hj
      | succ j => rw [dst_one (ds := r) hd (i := i) (j := j) (s := s) (by simpa using hi) (by simpa using hj)]
  | some t :: r, hd, i, j, s, hi, hj => by
    simp only [dstB, Bool.and_eq_true, Bool.not_eq_true', List.contains_eq_mem, decide_eq_false_iff_not] at hd
    cases i with
    | zero =>
      simp at hi
      subst hi
      cases j with
      | zero => rfl
      | succ j => exact absurd (List.mem_of_getElem? (by simpa using hj)) hd.1
    | succ i =>
      cases j with
      | zero => simp at hj; subst hj; exact absurd (List.mem_of_getElem? (by simpa using hi)) hd.1
      | succ j => rw [dst_one (ds := r) hd.2 (i := i) (j := j) (s := s) (by simpa using hi) (by simpa using hj)]
theorem look_same {vals : Nat → Value} {l : Nat → Bool} {t : Nat} {v : Value} {s : Tmp} : ∀ (ds : List (Option Tmp)) (k : Nat), (∀ j, k + j = t → ds[j]? ≠ some (some s)) → lookV (updV vals t v) (updB l t) k ds s = lookV vals l k ds s
  | [], _, _ => rfl
  | x :: rest, k, h => by
    simp only [lookV]
    rw [look_same rest (k + 1) (fun j hj => by have := h (j + 1) (by omega); simpa using this)]
    by_cases e : x = some s
    · have hk : k ≠ t := fun q => h 0 (by omega) (by simp [e])
      simp [updB, updV, hk]
    · simp [e]
theorem look_new {vals : Nat → Value} {l : Nat → Bool} {t : Nat} {v : Value} {s : Tmp} : ∀ (ds : List (Option Tmp)) (k : Nat), dstB ds = true → (∃ j, k + j = t ∧ ds[j]? = some (some s)) → lookV (updV vals t v) (updB l t) k ds s = some v
  | [], _, _, h => by obtain ⟨j, -, h⟩ := h; simp at h
  | x :: rest, k, hd, h => by
    obtain ⟨j, hj, hx⟩ := h
    simp only [lookV]
    cases j with
    | zero =>
      simp at hx
      have : k = t := by omega
      simp [hx, this, updB, updV]
    | succ j =>
      have hne : x ≠ some s := fun e => by
        have := dst_one hd (i := 0) (j := j + 1) (s := s) (by simp [e]) hx
        omega
      rw [if_neg (fun q => hne q.1)]
      refine look_new rest (k + 1) ?_ ⟨j, by omega, by simpa using hx⟩
      cases x with
      | none => exact hd
      | some y => simp only [dstB, Bool.and_eq_true] at hd; exact hd.2
theorem look_all {vals : Nat → Value} {l : Nat → Bool} {s : Tmp} : ∀ (ds : List (Option Tmp)) (k : Nat), (∀ i, k ≤ i → i < k + ds.length → l i = true) → lookV vals l k ds s = lookV vals (fun _ => true) k ds s
  | [], _, _ => rfl
  | x :: rest, k, h => by
    simp only [lookV]
    rw [look_all rest (k + 1) (fun i h1 h2 => h i (by omega) (by simp; omega)), h k (Nat.le_refl _) (by simp)]
    simp
theorem look_not {vals : Nat → Value} {l : Nat → Bool} {s : Tmp} : ∀ (ds : List (Option Tmp)) (k : Nat), ds.contains (some s) = false → lookV vals l k ds s = none
  | [], _, _ => rfl
  | x :: rest, k, h => by
    simp only [List.contains_cons, Bool.or_eq_false_iff] at h
    simp only [lookV]
    rw [if_neg (fun q => by rw [q.1] at h; simp at h), look_not rest (k + 1) h.2]
/-- The act behind all. -/
def finA (vals : Nat → Value) : Nat → List (Option Tmp) → Act → Act
  | _, [], b => b
  | k, x :: rest, b => finA vals (k + 1) rest (b.put x (vals k))
theorem fin_act {vals : Nat → Value} : ∀ (ds : List (Option Tmp)) (k : Nat) (b : Act), dstB ds = true → (∀ x ∈ ds, ∀ s, x = some s → s < b.tmps.size) → (finA vals k ds b).defers = b.defers ∧ (finA vals k ds b).tmps.size = b.tmps.size ∧ ∀ s : Nat, (finA vals k ds b).tmps[s]? = match lookV vals (fun _ => true) k ds s with | some v => some v | none => b.tmps[s]?
  | [], _, _, _, _ => ⟨rfl, rfl, fun _ => rfl⟩
  | x :: rest, k, b, hd, hin => by
    have hd' : dstB rest = true := by
      cases x with
      | none => exact hd
      | some y => simp only [dstB, Bool.and_eq_true] at hd; exact hd.2
    have hsz : (b.put x (vals k)).tmps.size = b.tmps.size := by cases x <;> simp [Act.put]
    have hdf : (b.put x (vals k)).defers = b.defers := by cases x <;> rfl
    obtain ⟨h1, h2, h3⟩ := fin_act (vals := vals) rest (k + 1) (b.put x (vals k)) hd' (fun y hy s hs => by rw [hsz]; exact hin y (List.mem_cons_of_mem _ hy) s hs)
    refine ⟨h1.trans hdf, h2.trans hsz, fun s => ?_⟩
    show (finA vals (k + 1) rest (b.put x (vals k))).tmps[s]? = _
    rw [h3 s]
    simp only [lookV]
    by_cases e : x = some s
    · subst e
      simp only [dstB, Bool.and_eq_true, Bool.not_eq_true'] at hd
      rw [look_not rest (k + 1) hd.1]
      have hlt := hin (some s) (List.mem_cons_self ..) s rfl
      simp [Act.put, hlt]
    · simp only [e, false_and, if_false]
      cases hl : lookV vals (fun _ => true) (k + 1) rest s with
      | some v => rfl
      | none =>
        cases x with
        | none => rfl
        | some y =>
          have : y ≠ s := fun q => e (by rw [q])
          simp only [Act.put]
          rw [Array.getElem?_setIfInBounds_ne this]
theorem act_eq {a b : Act} (hd : a.defers = b.defers) (ht : ∀ s : Nat, a.tmps[s]? = b.tmps[s]?) : a = b := by
  have ht' : a.tmps = b.tmps := Array.ext_getElem? ht
  cases a
  cases b
  simp only at ht' hd
  subst ht'
  congr 1
theorem StepsV.to {F : Fence} {m : Nat} {P : Program} {ops : Array Oper} {Q : Exit → Act → World → Prop} {J : (Nat → Bool) → (Nat → Value) → World → Prop} {D : List (List Nat)} {ds : List (Option Tmp)} {t0 : Array Value} {I : (Nat → Bool) → Act → World → Prop} : ∀ {os : List Oper} {i : Nat}, (∀ k o, os[k]? = some o → StepV F m P J D ds t0 (i + k) o → StepI F m P ops Q I D (i + k) o) → StepsV F m P J D ds t0 i os → StepsI F m P ops Q I D i os
  | [], _, _, _ => trivial
  | o :: rest, i, h, hs => ⟨h 0 o rfl hs.1, StepsV.to (fun k o' hk h1 => by have := h (k + 1) o' (by simpa using hk); rw [show i + (k + 1) = i + 1 + k by omega] at this; exact this h1) hs.2⟩
/-- A region that draws its order, by what holds of the values that have come up. -/
theorem wp_region_vals {F : Fence} {m : Nat} (hF : ∀ f, F.fn f) (hF2 : F.depth.isSome = false) {P : Program} {id : Nat} {Q : Exit → Act → World → Prop} {a : Act} {w : World} {os : List Oper} (D : List (List Nat)) (ds : List (Option Tmp)) (J : (Nat → Bool) → (Nat → Value) → World → Prop) (hm : P.follows .mixedOrders = true) (hD : depsL os = D) (hg : (((List.range os.length).all (fun i => match (os[i]?).bind (·.guard) with | none => true | some (j, _) => (D.getD i []).contains j && ((os[j]?).bind (·.dst)).isSome))) = true)
    (hB : ((List.range os.length).all (fun i => (D.getD i []).all (fun j => decide (j < i)))) = true) (hds : os.map (·.dst) = ds) (hnd : dstB ds = true) (hin : ds.all (fun x => x.all (fun s => decide (s < a.tmps.size))) = true)
    (h0 : J (fun _ => false) (fun _ => undef) w.drew) (hs : StepsV F m P J D ds a.tmps 0 os) (hd : ∀ l vals w, J l vals w → (∀ i, i < os.length → l i = true) → Q .normal (finA vals 0 ds a) w) : (Code.region id os.toArray true).wpIn F m P Q a w := by
  have hin' : ∀ x ∈ ds, ∀ s, x = some s → s < a.tmps.size := fun x hx s e => by
    have := List.all_eq_true.1 hin x hx
    subst e
    simpa using this
  refine wp_region_inv D (fun l b w => ∃ vals, (b.defers = a.defers ∧ b.tmps.size = a.tmps.size ∧ ∀ s : Nat, b.tmps[s]? = match lookV vals l 0 ds s with | some v => some v | none => a.tmps[s]?) ∧ J l vals w) hm hD hB ?_ ?_ ?_
  · refine ⟨fun _ => undef, ⟨rfl, rfl, fun s => ?_⟩, h0⟩
    have : ∀ (ds : List (Option Tmp)) k, lookV (fun _ => undef) (fun _ => false) k ds s = none := by
      intro ds
      induction ds with
      | nil => intro k; rfl
      | cons x r ih => intro k; simp [lookV, ih]
    rw [this]
  · refine StepsV.to (fun k o hk hst => ?_) hs
    rw [Nat.zero_add] at hst ⊢
    rintro l b w ⟨vals, ⟨hb1, hb2, hb3⟩, hJ⟩ hl hdn hdi
    have hev : b.eval = evV ds l vals a.tmps := by
      funext x
      cases x with
      | tmp s =>
        simp only [Act.eval, evV, Array.getD_eq_getD_getElem?, hb3 s]
        cases lookV vals l 0 ds s <;> rfl
      | const v => rfl
      | global g => rfl
      | func f => rfl
    have h := hst l vals w hJ hl hdn hdi
    have hdk : ds[k]? = some o.dst := by rw [← hds]; simp [hk]
    have hput : ∀ v w', J (updB l k) (updV vals k v) w' → ∃ vals', ((b.put o.dst v).defers = a.defers ∧ (b.put o.dst v).tmps.size = a.tmps.size ∧ ∀ s : Nat, (b.put o.dst v).tmps[s]? = match lookV vals' (updB l k) 0 ds s with | some v => some v | none => a.tmps[s]?) ∧ J (updB l k) vals' w' := fun v w' hJ' => by
      refine ⟨updV vals k v, ⟨by rw [← hb1]; cases o.dst <;> rfl, by rw [← hb2]; cases o.dst <;> simp [Act.put], fun s => ?_⟩, hJ'⟩
      by_cases e : o.dst = some s
      · rw [look_new ds 0 hnd ⟨k, by omega, by rw [hdk, e]⟩, e]
        have hlt := hin' (some s) (by rw [← e]; exact List.mem_of_getElem? hdk) s rfl
        simp [Act.put, hb2, hlt]
      · rw [look_same ds 0 (fun j hj q => e (by obtain rfl : j = k := (by omega); rw [hdk] at q; exact Option.some.inj q)), ← hb3 s]
        cases hdst : o.dst with
        | none => rfl
        | some y =>
          rw [hdst] at e
          have : y ≠ s := fun q => e (by rw [q])
          simp only [Act.put]
          rw [Array.getElem?_setIfInBounds_ne this]
    have hkl : k < os.length := (List.getElem?_eq_some_iff.1 hk).1
    have hwt : Region.wanted o (yielded os.toArray b.tmps) = wantV o vals := by
      unfold Region.wanted wantV
      have hgk := List.all_eq_true.1 hg k (List.mem_range.2 hkl)
      rw [hk] at hgk
      cases hgd : o.guard with
      | none => rfl
      | some jb =>
        obtain ⟨j, bb⟩ := jb
        simp only [Option.bind_some, hgd, Bool.and_eq_true] at hgk
        obtain ⟨g1, g2⟩ := hgk
        have hj : l j = true := hdi j (by simpa using g1)
        obtain ⟨s, hs'⟩ := Option.isSome_iff_exists.1 g2
        have hdj : ds[j]? = some (some s) := by
          rw [← hds, List.getElem?_map]
          cases hoj : os[j]? with
          | none => rw [hoj] at hs'; cases hs'
          | some oj => rw [hoj] at hs'; simp only [Option.bind_some] at hs'; simp [hs']
        have hlk : lookV vals l 0 ds s = some (vals j) := by
          have := look_new (vals := vals) (l := l) (t := j) (v := vals j) ds 0 hnd ⟨j, by omega, hdj⟩
          rw [show updV vals j (vals j) = vals from by funext q; unfold updV; split <;> simp_all, show updB l j = l from by funext q; unfold updB; split <;> simp_all] at this
          exact this
        have hy : yielded os.toArray b.tmps j = match vals j with | .bool b => some b | _ => none := by
          unfold yielded
          have e1 : ((os.toArray[j]?).bind (·.dst)).bind (b.tmps[·]?) = some (vals j) := by
            simp only [List.getElem?_toArray, hs', Option.bind_some, hb3 s, hlk]
          rw [e1]
          cases vals j <;> rfl
        simp only [hy]
        cases vals j <;> rfl
    obtain ⟨hnd', h1, h2⟩ := h
    rw [hwt]
    cases hwv : wantV o vals with
    | false =>
      rw [if_neg (by simp)]
      exact ⟨fun f _ => hF f, hput _ _ (h2 hwv)⟩
    | true =>
    rw [if_pos rfl]
    have h := h1 hwv
    unfold Oper.wpIn
    refine ⟨fun f _ => hF f, ?_⟩
    rw [hev, Oper.semAt_eq _ _ _ hnd']
    revert h
    generalize (execOp (evV ds l vals a.tmps) o).run P w = r
    intro h
    rcases r with ⟨x, w'⟩ | ⟨x, w'⟩
    · cases x <;> first | (exact h.elim) | skip
      · exact hput _ _ h
      · exact hput _ _ h
      · refine ⟨fun q => (by rw [hF2] at q; cases q), CallsIn.mono h ?_⟩
        rintro e w2 ⟨v, rfl, hK⟩
        exact hput _ _ hK
      · refine ⟨fun q => (by rw [hF2] at q; cases q), RoundIn.mono h ?_⟩
        rintro e w2 ⟨v, rfl, hK⟩
        exact hput _ _ hK
    · exact h.elim
  · rintro l b w ⟨vals, ⟨hb1, hb2, hb3⟩, hJ⟩ hall
    obtain ⟨f1, f2, f3⟩ := fin_act (vals := vals) ds 0 a hnd hin'
    have hb : b = finA vals 0 ds a := act_eq (hb1.trans f1.symm) (fun s => by
      rw [hb3 s, f3 s, look_all ds 0 (fun i _ h2 => hall i (by rw [← hds] at h2; simpa using h2))])
    rw [hb]
    exact hd l vals w hJ hall
/-- The values that are what they must be, whatever the order. -/
def Det (DL : List (Option Value)) (l : Nat → Bool) (vals : Nat → Value) : Prop := ∀ i v, DL[i]? = some (some v) → l i = true → vals i = v
theorem Det.step {DL : List (Option Value)} {l : Nat → Bool} {vals : Nat → Value} {i : Nat} {v : Value} (h : Det DL l vals) (hv : ∀ v', DL[i]? = some (some v') → v = v') : Det DL (updB l i) (updV vals i v) := by
  intro k u hk hl
  by_cases e : k = i
  · subst e
    simp only [updV, if_true]
    exact hv u hk
  · simp only [updB, updV, if_neg e] at hl ⊢
    exact h k u hk hl
theorem Det.nil (DL : List (Option Value)) : Det DL (fun _ => false) (fun _ => undef) := fun _ _ _ h => by cases h
theorem not_yet {l : Nat → Bool} {D : List (List Nat)} (hdn : ∀ k, l k = true → ∀ j ∈ D.getD k [], l j = true) {i k : Nat} (hl : l i = false) (hk : i ∈ D.getD k []) : l k = false := by
  cases h : l k with
  | false => rfl
  | true => have := hdn k h i hk; rw [hl] at this; cases this
end Go.Proofs.YtffnhflbhckhbaaDoor
