import Derived.Test.YtffnhflbhckhbaaDoorQJ
namespace Go.Proofs.YtffnhflbhckhbaaDoor
open Go.RowKit Go.Shelf
/-- The swaps, as they are. -/
def sOf (gv rd rw : Int) (F : List Sl) : Sw := ⟨F.length, gv, rd, rw, fun i => (slAt F i.toNat).ints⟩
def freeN (n u : Nat) : Nat := cntF n (fun k => u.testBit k)
theorem upd_bit (u k : Nat) : updB (fun j => u.testBit j) k = fun j => (u ||| 2 ^ k).testBit j := by
  funext j
  rw [bit_or]
  unfold updB
  by_cases e : j = k
  · subst e; simp
  · rw [if_neg e, decide_eq_false (fun q => e q.symm), Bool.or_false]
theorem free_step {n u k : Nat} (hk : k < n) (hb : u.testBit k = false) : freeN n (u ||| 2 ^ k) < freeN n u := by
  have := cnt_upd (l := fun j => u.testBit j) hb n
  rw [if_pos hk, upd_bit] at this
  unfold freeN
  omega
/-- What is told of each chain that is handed out. -/
def Wy (s : Sw) (u0 : Nat) (a : Int) (o : List Int) : Prop := Line s o ∧ o.Nodup ∧ hd o = a ∧ ∀ x ∈ o, u0.testBit x.toNat = false
theorem Mid.trans {J : List (List Int) → (Nat → Prop) → World → Prop} {ys : List (List Int)} {S S1 : Nat → Prop} {v : Value} {d : Nat} {c : List Int} {W W1 W2 : World} (hS : ∀ b, S1 b → S b ∨ W.heap.size ≤ b) (hK : Keep (fun b => b < W.heap.size ∧ ¬ S b ∧ v.ownBlock ≠ some b) W W1) (h : Mid J ys S1 v d c W1 W2) : Mid J ys S v d c W W2 := by
  obtain ⟨S2, k1, k2, k3, k4⟩ := h
  refine ⟨S2, k1, fun b hb => ?_, k3, hK.trans (k4.sub fun b hb => ⟨Nat.lt_of_lt_of_le hb.1 hK.size, fun h => ?_, hb.2.2⟩)⟩
  · rcases k2 b hb with h | h
    · exact hS b h
    · exact .inr (Nat.le_trans hK.size h)
  · rcases hS b h with h | h
    · exact hb.2.1 h
    · have := hb.1; omega
theorem nodup_len : ∀ (n : Nat) (l : List Nat), l.Nodup → (∀ x ∈ l, x < n) → l.length ≤ n
  | 0, l, _, h => by
    cases l with
    | nil => exact Nat.le_refl _
    | cons x l => exact absurd (h x (List.mem_cons_self ..)) (by omega)
  | n + 1, l, hd, h => by
    have h1 := nodup_len n (l.erase n) (hd.erase n) (fun x hx => by
      have h2 := (List.Nodup.mem_erase_iff hd).1 hx
      have := h x h2.2
      omega)
    by_cases e : n ∈ l
    · rw [List.length_erase_of_mem e] at h1; omega
    · rw [List.erase_of_not_mem e] at h1; omega
theorem nodup_len8 {l : List Int} {n : Nat} (hd : l.Nodup) (h : ∀ x ∈ l, 0 ≤ x ∧ x < (n : Int)) : l.length ≤ n := by
  have := nodup_len n (l.map Int.toNat) ?_ ?_
  · simpa using this
  · unfold List.Nodup at hd ⊢
    rw [List.pairwise_map]
    refine List.Pairwise.imp_of_mem (fun {x y} hx hy hxy e => hxy ?_) hd
    have := h x hx
    have := h y hy
    omega
  · intro x hx
    obtain ⟨y, hy, rfl⟩ := List.mem_map.1 hx
    have := h y hy
    omega
attribute [local go_sem] Oper.semAt_some
theorem chL_succ (s : Sw) (f : Nat) (c : List Int) (u : Nat) : chL s (f + 1) c u = yL s c ++ (s.F (lst c)).flatMap (fun k => if u.testBit k.toNat then [] else chL s f (c ++ [k]) (u ||| 2 ^ k.toNat)) := rfl
section
variable {J : List (List Int) → (Nat → Prop) → World → Prop} {ly fm Bm Bs By Bg : Nat} {gv rd rw : Int} {fa : Option Addr} {fn fc : Nat} {F : List Sl} {u0 : Nat} {a0 : Int}
set_option maxRecDepth 100000 in
set_option maxHeartbeats 8000000 in
theorem grow_in (JI : Inv J) (hs : (sOf gv rd rw F).Ok) (h8 : F.length ≤ 8) (hJF : ∀ pre S W, J pre S W → Lsts W fa fn fc F) (hfl : ∀ x ∈ F, x.ln ≤ 1024) (hY : Rounds Tryd.prog ly (Wy (sOf gv rd rw F) u0 a0) J)
    (hfm : ∀ args X, (callFunc fm args).run Tryd.prog X = .ok (.enter fm args) X)
    (hMay : ∀ (X : World) (a' : Option Addr) (cp : Nat) (l : List Int), Lsts X fa fn fc F → Ints X a' l.length cp l → 2 ≤ l.length → l.length ≤ 9 → (∀ x ∈ l, 0 ≤ x ∧ x < (F.length : Int)) → hd l = a0 → Calls Tryd.prog fm #[swV gv rd rw fa fn fc, .slice a' l.length cp] X fun e X' => e = .returned (.bool (mayL (sOf gv rd rw F) l)) ∧ Below X.heap.size X X') :
    ∀ (f : Nat) (c : List Int) (u : Nat), freeN F.length u < f → Beg (sOf gv rd rw F) c u → u < 256 → c.length ≤ 8 → hd c = a0 → (∀ x ∈ c, u0.testBit x.toNat = false) → (∀ j, u0.testBit j = true → u.testBit j = true) → ∀ (v : Value) (pre : List (List Int)) (S : Nat → Prop) (W : World), J pre S W → Bx W Bm Bs By Bg fm ly gv rd rw fa fn fc → ¬ S Bm → ¬ S Bs → ¬ S By → ¬ S Bg →
    W.ownsRow 0 3 1 v c.length (intVals c) → (∀ b, v.ownBlock = some b → ¬ S b ∧ b ≠ Bm ∧ b ≠ Bs ∧ b ≠ By ∧ b ≠ Bg) →
    Calls Tryd.prog 32 #[v, .int .i64 (u : Int), .pointer (some ⟨Bm, 0, none⟩), .pointer (some ⟨Bs, 0, none⟩), .pointer (some ⟨By, 0, none⟩), .pointer (some ⟨Bg, 0, none⟩)] W fun e W' => e = .returned (.bool true) ∧ Mid J (pre ++ chL (sOf gv rd rw F) f c u) S v c.length c W W' := by
  intro f
  induction f with
  | zero => intro c u hf; omega
  | succ f ih =>
    intro c u hf hbeg hu hc8 hhd hcu hu0 v pre S W hJ hB sm ss sy sg ho hv
    have hFW := hJF pre S W hJ
    have hfn : fn = F.length := hFW.1
    obtain ⟨a, cp, hve, hI, hgI⟩ := Ints.of_owns ho (by omega)
    have hc0 : 0 < c.length := List.length_pos_iff.2 hbeg.ne
    subst hve
    have HVS : Hid (∀ b, (Value.slice a c.length cp).ownBlock = some b → ¬ S b) := fun b hb => (hv b hb).1
    -- what a world that keeps to P0 has of all this
    have HP : Hid (∀ (T1 : Nat → Prop) (X : World), (∀ b, T1 b → S b ∨ W.heap.size ≤ b) → X.ownsRow 0 3 1 (.slice a c.length cp) c.length (intVals c) → Keep (fun b => b < W.heap.size ∧ ¬ S b ∧ (Value.slice a c.length cp).ownBlock ≠ some b) W X → Bx X Bm Bs By Bg fm ly gv rd rw fa fn fc ∧ ¬ T1 Bm ∧ ¬ T1 Bs ∧ ¬ T1 By ∧ ¬ T1 Bg ∧ (∀ b, (Value.slice a c.length cp).ownBlock = some b → ¬ T1 b)) := fun T1 X h1 h2 h3 => by
      have nS : ∀ b, b < W.heap.size → ¬ S b → ¬ T1 b := fun b hb hn h => by
        rcases h1 b h with h | h
        · exact hn h
        · omega
      exact ⟨hB.keep h3 ⟨hB.lm, sm, fun e => (hv _ e).2.1 rfl⟩ ⟨hB.ls, ss, fun e => (hv _ e).2.2.1 rfl⟩ ⟨hB.lY, sy, fun e => (hv _ e).2.2.2.1 rfl⟩ ⟨hB.lg, sg, fun e => (hv _ e).2.2.2.2 rfl⟩, nS _ hB.lm sm, nS _ hB.ls ss, nS _ hB.lY sy, nS _ hB.lg sg, fun b hb => nS b (ho.lt b hb).2 (hv b hb).1⟩
    have hlr : 0 ≤ lst c ∧ lst c < (F.length : Int) := hbeg.rng (lst c) (by unfold lst; rw [List.getElem?_eq_getElem (by omega)]; exact List.getElem_mem _)
    have HFITS : Hid (∀ x ∈ (slAt F (lst c).toNat).ints, 0 ≤ x ∧ x < (F.length : Int)) := fun x hx => by
      have := hs.fits (lst c) x hx
      have := hs.gv0
      exact ⟨by omega, by have := (hs.fits (lst c) x hx).2.1; exact this⟩
    have HIH := hide ih
    have HBEG := hide hbeg
    have HCU := hide hcu
    have HU0 := hide hu0
    have HV := hide hv
    have HHD := hide hhd
    have HFR := hide hf
    have HM1 : Hid (1 < c.length → ∀ X, Below W.heap.size W X → Calls Tryd.prog fm #[swV gv rd rw fa fn fc, .slice a c.length cp] X fun e X' => e = .returned (.bool (mayL (sOf gv rd rw F) c)) ∧ Below X.heap.size X X') := fun h X hX => hMay X a cp c (hFW.later hX) (hI.later hX) h (by omega) hbeg.rng hhd
    have HWY : Hid (1 < c.length → mayL (sOf gv rd rw F) c = true → Wy (sOf gv rd rw F) u0 a0 c) := fun h1 h2 => ⟨⟨h1, hbeg.rng, hbeg.path, h2⟩, hbeg.nd, hhd, hcu⟩
    have HS := hide hs
    clear ih hbeg hcu hu0 hv hhd hf hs hMay hFW hgI sm ss sy sg
    go_enter Tryd.func32, Tryd.ntmps32
    go_wp2_with fail
    refine (wpIn_wide (n := 5)).1 ?_
    refine reg1 JI hY (s := sOf gv rd rw F) rfl rfl rfl rfl hB hJ ho (by omega) rfl (unhide HVS) hfm (unhide HM1) (unhide HWY) rfl rfl rfl rfl rfl rfl rfl rfl rfl rfl rfl rfl rfl rfl rfl rfl rfl rfl rfl rfl rfl rfl rfl rfl rfl rfl rfl rfl rfl rfl rfl rfl (by kernel_rfl) (by kernel_rfl) (by kernel_rfl) (by kernel_rfl) (by kernel_rfl) (by kernel_rfl) (by kernel_rfl) ?_
    rintro vals w1 hv15 hM
    simp only [finA, S1, Act.put, List.setIfInBounds_toArray, List.set_cons_succ, List.set_cons_zero, hv15]
    obtain ⟨T1, j1, j2, j3, j4⟩ := hM
    obtain ⟨hB1, -⟩ := unhide HP T1 w1 j2 j3 j4
    have hL1 := hJF _ _ _ j1
    obtain ⟨a', cp', e', hI1, -⟩ := Ints.of_owns j3 (by omega)
    cases e'
    obtain ⟨gb, off, ea, -, hcell⟩ := hI1.cellAt hc0
    have hlast : w1.cell? ⟨gb, off + (c.length - 1), none⟩ = some (.int .i64 (lst c)) := hcell (c.length - 1) (by omega)
    obtain ⟨fb, fo, ef, -, hfc⟩ := hL1.cellAt (by omega)
    have hfx := hfc (lst c).toNat (by omega)
    have hIF := hL1.mem (k := (lst c).toNat) (by omega)
    have c1 := hB1.bs.c1
    have HM1' : Hid (Mid J (pre ++ yL (sOf gv rd rw F) c) S (.slice a c.length cp) c.length c W w1) := ⟨T1, j1, j2, j3, j4⟩
    have HIF := hide hIF
    have HWL : Hid (∀ X, Lsts X fa fn fc F → Ints X (slAt F (lst c).toNat).la (slAt F (lst c).toNat).ln (slAt F (lst c).toNat).lc (slAt F (lst c).toNat).ints) := fun X hX => hX.mem (by omega)
    have hxn : (slAt F (lst c).toNat).ln = (slAt F (lst c).toNat).ints.length := hIF.1
    have hxb := hfl (slAt F (lst c).toNat) (slAt_mem (by omega))
    have hlx : ((lst c).toNat : Int) = lst c := Int.toNat_of_nonneg hlr.1
    have HCH : Hid (chL (sOf gv rd rw F) (f + 1) c u = yL (sOf gv rd rw F) c ++ (slAt F (lst c).toNat).ints.flatMap (fun k => if u.testBit k.toNat then [] else chL (sOf gv rd rw F) f (c ++ [k]) (u ||| 2 ^ k.toNat))) := rfl
    obtain ⟨fx, hfx0⟩ : ∃ fx, fx = slAt F (lst c).toNat := ⟨_, rfl⟩
    rw [← hfx0] at hfx HIF HWL hxn hxb HCH HFITS
    have HFX := hide hfx0
    obtain ⟨xa, xn, xc, FL⟩ := fx
    simp only at hfx HIF HWL hxn hxb HCH HFITS
    subst hxn
    obtain ⟨x, hx⟩ : ∃ x, x = (lst c).toNat := ⟨_, rfl⟩
    have hxl : lst c = (x : Int) := by omega
    rw [← hx] at hfx
    rw [hxl] at hlast
    have hxf : (x : Int) < (fn : Int) := by omega
    subst ea
    subst ef
    have hc1 : ((c.length : Int) - 1) = ((c.length - 1 : Nat) : Int) := by omega
    clear hcell hfc hI1 hL1 j1 j2 j3 j4 hB1 hIF hlx hx hxl hlr
    go_wp2_with fail
    go_quiet (fail)
    have hbz := below_drewN w1.heap.size w1 nq
    have HM2 : Hid (Mid J (pre ++ yL (sOf gv rd rw F) c) S (.slice (some ⟨gb, off, none⟩) c.length cp) c.length c W (w1.drewN nq)) := by
      obtain ⟨T1, j1, j2, j3, j4⟩ := unhide HM1'
      exact Mid.trans j2 j4 (Mid.here JI j1 j3 hbz)
    clear hbz hlast hfx c1 HM1'
    generalize w1.drewN nq = w2 at *
    go_wp2_with fail
    go_loopw [38, 10] (fun iv _ wr => ∃ j : Nat, j ≤ FL.length ∧ iv = .int .i64 (j : Int) ∧ Hid (Mid J (pre ++ (yL (sOf gv rd rw F) c ++ (FL.take j).flatMap (fun k => if u.testBit k.toNat then [] else chL (sOf gv rd rw F) f (c ++ [k]) (u ||| 2 ^ k.toNat)))) S (.slice (some ⟨gb, off, none⟩) c.length cp) c.length c W wr)) (fun iv _ _ => FL.length - (intOf iv).toNat)
    case atStart => exact ⟨0, Nat.zero_le _, rfl, by simpa using HM2⟩
    case round =>
      obtain ⟨j, hj, rfl, HMr⟩ := hrel
      obtain ⟨T1, j1, j2, j3, j4⟩ := unhide HMr
      obtain ⟨hB1, t1, t2, t3, t4, t5⟩ := unhide HP T1 wr j2 j3 j4
      have hLr := hJF _ _ _ j1
      by_cases hlt : j < FL.length
      · have hIX := unhide HWL wr hLr
        obtain ⟨xb, xo, ex, -, hxc⟩ := hIX.cellAt (by omega)
        subst ex
        have hck := hxc j hlt
        have hkm := unhide HFITS (FL[j]'hlt) (List.getElem_mem hlt)
        have HKM : Hid ((FL[j]'hlt) ∈ (sOf gv rd rw F).F (lst c)) := by
          show _ ∈ (slAt F (lst c).toNat).ints
          rw [← unhide HFX]
          exact List.getElem_mem hlt
        have HTK : Hid (FL.take (j + 1) = FL.take j ++ [FL[j]'hlt]) := List.take_succ_eq_append_getElem hlt
        rw [List.getElem?_eq_getElem hlt] at hck
        simp only [Option.getD_some] at hck
        obtain ⟨kk, hkk⟩ : ∃ kk : Nat, (FL[j]'hlt) = (kk : Int) := ⟨(FL[j]'hlt).toNat, by omega⟩
        rw [hkk] at hck hkm HKM HTK
        have hk8 : kk < 8 := by omega
        have HREC : Hid (u.testBit kk = false → ∀ (X : World) (v2 : Value) (w3 : World), Below wr.heap.size wr X → X.ownsRow 0 3 1 (.slice (some ⟨gb, off, none⟩) c.length cp) c.length (intVals c) → w3.ownsRow 0 3 1 v2 (c.length + 1) (intVals (c ++ [(kk : Int)])) → X.grownBy w3 (Value.slice (some ⟨gb, off, none⟩) c.length cp).ownBlock → ((∃ g cap, Value.slice (some ⟨gb, off, none⟩) c.length cp = .slice (some ⟨g, 0, none⟩) c.length cap ∧ v2 = .slice (some ⟨g, 0, none⟩) (c.length + 1) cap) ∨ (v2.ownBlock = some X.heap.size ∧ Below X.heap.size X w3)) → w3.cell? ⟨Bg, 0, none⟩ = some (growV Bm Bs By Bg) ∧ Calls Tryd.prog 32 #[v2, .int .i64 ((u ||| 2 ^ kk : Nat) : Int), .pointer (some ⟨Bm, 0, none⟩), .pointer (some ⟨Bs, 0, none⟩), .pointer (some ⟨By, 0, none⟩), .pointer (some ⟨Bg, 0, none⟩)] w3 fun e w4 => e = .returned (.bool true) ∧ Mid J (pre ++ (yL (sOf gv rd rw F) c ++ (FL.take j).flatMap (fun k => if u.testBit k.toNat then [] else chL (sOf gv rd rw F) f (c ++ [k]) (u ||| 2 ^ k.toNat))) ++ chL (sOf gv rd rw F) f (c ++ [(kk : Int)]) (u ||| 2 ^ kk)) T1 (.slice (some ⟨gb, off, none⟩) c.length cp) c.length c wr w4) := fun hbit X v2 w3 hbX hoX ho2 hg2 hcase => by
          have hszX := hbX.size
          have hsz2 := hg2.size
          have hsw := JI.lt j1
          have hkeep : ∀ b, b < wr.heap.size → (Value.slice (some ⟨gb, off, none⟩) c.length cp).ownBlock ≠ some b → w3.heap[b]? = wr.heap[b]? := fun b hb hne => (hg2.block b (by omega) (fun e => hne e.symm)).trans (hbX.block b hb)
          have kS : Keep T1 wr w3 := ⟨hg2.os.trans hbX.os, hg2.tape.trans hbX.tape, hg2.output.trans hbX.output, by omega, fun b hb => hkeep b (hsw b hb) (fun e => t5 b e hb)⟩
          have hown : ∀ b, (Value.slice (some ⟨gb, off, none⟩) c.length cp).ownBlock = some b → b < wr.heap.size ∧ b ≠ Bm ∧ b ≠ Bs ∧ b ≠ By ∧ b ≠ Bg := fun b hb => ⟨(j3.lt b hb).2, (unhide HV b hb).2⟩
          have kP : Keep (fun b => b < wr.heap.size ∧ (Value.slice (some ⟨gb, off, none⟩) c.length cp).ownBlock ≠ some b) wr w3 := ⟨kS.os, kS.tape, kS.output, kS.size, fun b hb => hkeep b hb.1 hb.2⟩
          have hB3 := hB1.keep kP ⟨hB1.lm, fun e => (hown _ e).2.1 rfl⟩ ⟨hB1.ls, fun e => (hown _ e).2.2.1 rfl⟩ ⟨hB1.lY, fun e => (hown _ e).2.2.2.1 rfl⟩ ⟨hB1.lg, fun e => (hown _ e).2.2.2.2 rfl⟩
          have hv2 : ∀ b, v2.ownBlock = some b → ¬ T1 b ∧ b ≠ Bm ∧ b ≠ Bs ∧ b ≠ By ∧ b ≠ Bg := fun b hb => by
            rcases hcase with ⟨g, cap, e1, e2⟩ | ⟨e1, _⟩
            · rw [e2] at hb
              have hb' : (Value.slice (some ⟨gb, off, none⟩) c.length cp).ownBlock = some b := by rw [e1]; exact hb
              exact ⟨t5 b hb', (hown b hb').2⟩
            · rw [e1] at hb
              cases hb
              have l1 := hB1.lm
              have l2 := hB1.ls
              have l3 := hB1.lY
              have l4 := hB1.lg
              exact ⟨fun h => by have := hsw _ h; omega, by omega, by omega, by omega, by omega⟩
          have hcl : (c ++ [(kk : Int)]).length = c.length + 1 := by simp
          have hbeg2 := (unhide HBEG).snoc (unhide HS) (unhide HKM) hbit
          have hlen2 : (c ++ [(kk : Int)]).length ≤ 8 := by
            have := nodup_len8 hbeg2.nd (fun x hx => hbeg2.rng x hx)
            exact Nat.le_trans this h8
          have hrec := unhide HIH (c ++ [(kk : Int)]) (u ||| 2 ^ kk) (by have := free_step (n := F.length) (u := u) (k := kk) (by omega) hbit; have := unhide HFR; omega) hbeg2 (or_lt u hu kk hk8) hlen2 ((hd_append _ _ (unhide HBEG).ne).trans (unhide HHD)) (fun x hx => by
              rcases List.mem_append.1 hx with q | q
              · exact unhide HCU x q
              · rw [List.mem_singleton] at q
                subst q
                cases hq : u0.testBit (kk : Int).toNat with
                | false => rfl
                | true => exact absurd ((unhide HU0 _ hq).symm.trans hbit) (by simp)) (fun j hj => by rw [bit_or, unhide HU0 j hj]; rfl) v2 (pre ++ (yL (sOf gv rd rw F) c ++ (FL.take j).flatMap (fun k => if u.testBit k.toNat then [] else chL (sOf gv rd rw F) f (c ++ [k]) (u ||| 2 ^ k.toNat)))) T1 w3 (JI.frame j1 kS) hB3 t1 t2 t3 t4 (by rw [hcl]; exact ho2) hv2
          refine ⟨hB3.cg, hrec.mono ?_⟩
          rintro e w4 ⟨rfl, S'', q1, q2, q3, q4⟩
          refine ⟨rfl, S'', q1, fun b hb => ?_, ?_, ?_⟩
          · rcases q2 b hb with h | h
            · exact .inl h
            · exact .inr (by omega)
          · rw [hcl] at q3
            rcases hcase with ⟨g, cap, e1, e2⟩ | ⟨e1, e2⟩
            · subst e2
              rw [e1]
              exact owns_less q3 rfl
            · refine owns_keep (owns_later hoX e2) fun b hb => ?_
              have hlt := (hown b hb).1
              exact q4.block b ⟨by omega, t5 b hb, fun e => by rw [e1] at e; cases e; omega⟩
          · refine (kP.sub fun b hb => ⟨hb.1, hb.2.2⟩).trans (q4.sub fun b hb => ⟨by have := hb.1; omega, hb.2.1, fun e => ?_⟩)
            rcases hcase with ⟨g, cap, e1, e2⟩ | ⟨e1, _⟩
            · rw [e2] at e; exact hb.2.2 (by rw [e1]; exact e)
            · rw [e1] at e; cases e; have := hb.1; omega
        have HCG := hide hB1.cg
        go_wp2_with fail
        refine (wpIn_wide (n := 5)).1 ?_
        refine reg6 JI (L2 := chL (sOf gv rd rw F) f (c ++ [(kk : Int)]) (u ||| 2 ^ kk)) rfl rfl rfl rfl hu hk8 hB1.lg (unhide HCG) j1 j3 (by omega) (unhide HREC) rfl rfl rfl rfl rfl rfl rfl rfl rfl rfl rfl rfl rfl rfl rfl rfl rfl rfl rfl rfl rfl rfl rfl rfl rfl rfl rfl rfl rfl rfl rfl rfl rfl rfl rfl rfl (by kernel_rfl) (by kernel_rfl) (by kernel_rfl) (by kernel_rfl) (by kernel_rfl) (by kernel_rfl) (by kernel_rfl) ?_
        rintro vals2 w5 hv17 hM5
        simp only [finA, S6, Act.put, List.setIfInBounds_toArray, List.set_cons_succ, List.set_cons_zero, hv17]
        have HM5 : Hid (Mid J (pre ++ (yL (sOf gv rd rw F) c ++ (FL.take (j + 1)).flatMap (fun k => if u.testBit k.toNat then [] else chL (sOf gv rd rw F) f (c ++ [k]) (u ||| 2 ^ k.toNat)))) S (.slice (some ⟨gb, off, none⟩) c.length cp) c.length c W w5) := by
          have := Mid.trans j2 j4 hM5
          rw [unhide HTK, List.flatMap_append, List.flatMap_singleton, ← List.append_assoc (yL (sOf gv rd rw F) c), ← List.append_assoc pre]
          exact this
        clear hM5 hck
        go_wp2_with fail
        exact ⟨⟨j + 1, by omega, by go_num, HM5⟩, by simp [intOf]; omega⟩
      · obtain rfl : j = FL.length := by omega
        have HFIN : Hid (Mid J (pre ++ chL (sOf gv rd rw F) (f + 1) c u) S (.slice (some ⟨gb, off, none⟩) c.length cp) c.length c W wr) := by
          have := unhide HMr
          rw [List.take_length] at this
          rw [unhide HCH]
          exact this
        clear HMr j1 j2 j3 j4 hB1 hLr t1 t2 t3 t4 t5
        go_wp2_with fail
        go_ret
        exact ⟨rfl, unhide HFIN⟩
end
end Go.Proofs.YtffnhflbhckhbaaDoor
