import Derived.Test.YtffnhflbhckhbaaDoorQH
import Derived.Test.YtffnhflbhckhbaaDoorQI
namespace Go.Proofs.YtffnhflbhckhbaaDoor
open Go.RowKit Go.Shelf
/-- How things stand while growing: the rounds so far; the row lies as it lay. -/
def Mid (J : List (List Int) → (Nat → Prop) → World → Prop) (xs : List (List Int)) (S : Nat → Prop) (v : Value) (d : Nat) (c : List Int) (W W1 : World) : Prop :=
  ∃ S1, J xs S1 W1 ∧ (∀ b, S1 b → S b ∨ W.heap.size ≤ b) ∧ W1.ownsRow 0 3 1 v d (intVals c) ∧ Keep (fun b => b < W.heap.size ∧ ¬ S b ∧ v.ownBlock ≠ some b) W W1
def yL (s : Sw) (c : List Int) : List (List Int) := if decide (1 < c.length) && mayL s c then [c] else []
theorem Mid.here {J : List (List Int) → (Nat → Prop) → World → Prop} (JI : Inv J) {xs : List (List Int)} {S : Nat → Prop} {v : Value} {d : Nat} {c : List Int} {W W1 : World} (hJ : J xs S W) (ho : W.ownsRow 0 3 1 v d (intVals c)) (hb : Below W.heap.size W W1) : Mid J xs S v d c W W1 :=
  ⟨S, JI.frame hJ (Keep.of_below hb (JI.lt hJ)), fun _ h => .inl h, owns_later ho hb, Keep.of_below hb (fun _ h => h.1)⟩
set_option maxHeartbeats 1000000 in
theorem reg1 {J : List (List Int) → (Nat → Prop) → World → Prop} (JI : Inv J) {ly : Nat} {Wy : List Int → Prop} (hY : Rounds Tryd.prog ly Wy J) {s : Sw} {m id : Nat} {Q : Exit → Act → World → Prop} {A : Act} {W : World} {a : Option Addr} {d cp fm : Nat} {gv rd rw : Int} {fa : Option Addr} {fn fc : Nat} {c : List Int} {Bm Bs By Bg : Nat} {pre : List (List Int)} {S : Nat → Prop}
    (h0 : A.tmps[0]? = some (.slice a d cp)) (h2 : A.tmps[2]? = some (.pointer (some ⟨Bm, 0, none⟩))) (h3 : A.tmps[3]? = some (.pointer (some ⟨Bs, 0, none⟩))) (h4 : A.tmps[4]? = some (.pointer (some ⟨By, 0, none⟩))) (hB : Bx W Bm Bs By Bg fm ly gv rd rw fa fn fc) (hJ : J pre S W) (ho : W.ownsRow 0 3 1 (.slice a d cp) d (intVals c)) (hd9 : d ≤ 1000) (hdl : d = c.length)
    (hvS : ∀ b, (Value.slice a d cp).ownBlock = some b → ¬ S b)
    (hfm : ∀ args X, (callFunc fm args).run Tryd.prog X = .ok (.enter fm args) X) (hMay : 1 < d → ∀ X, Below W.heap.size W X → Calls Tryd.prog fm #[swV gv rd rw fa fn fc, .slice a d cp] X fun e X' => e = .returned (.bool (mayL s c)) ∧ Below X.heap.size X X')
    (hWy : 1 < d → mayL s c = true → Wy c)
    {o0 o1 o2 o3 o4 o5 o6 o7 o8 o9 o10 o11 o12 o13 o14 o15 : Oper}
    (e0 : o0.op = .move (.tmp 0)) (e1 : o1.op = .call { callee := .builtin .len, args := #[.tmp 11], argTypes := #[34] }) (e2 : o2.op = .binOp .gtr 3 (.tmp 12) (.const (.int .i64 1)) 3) (e3 : o3.op = .move (.tmp 13)) (e4 : o4.op = .load 44 (.tmp 2)) (e5 : o5.op = .load 24 (.tmp 3)) (e6 : o6.op = .move (.tmp 0)) (e7 : o7.op = .call { callee := .value (.tmp 15), args := #[.tmp 16, .tmp 17], argTypes := #[24, 34] }) (e8 : o8.op = .pick (.tmp 14) (.tmp 18) (.const (.bool false))) (e9 : o9.op = .move (.tmp 19)) (e10 : o10.op = .load 62 (.tmp 4)) (e11 : o11.op = .move (.tmp 0)) (e12 : o12.op = .call { callee := .value (.func 33), args := #[.tmp 22], argTypes := #[34] }) (e13 : o13.op = .call { callee := .value (.tmp 21), args := #[.tmp 23], argTypes := #[34] }) (e14 : o14.op = .unOp .not 4 (.tmp 24)) (e15 : o15.op = .pick (.tmp 20) (.tmp 25) (.const (.bool false)))
    (g0 : o0.guard = none) (g1 : o1.guard = none) (g2 : o2.guard = none) (g3 : o3.guard = none) (g4 : o4.guard = some (3, true)) (g5 : o5.guard = some (3, true)) (g6 : o6.guard = some (3, true)) (g7 : o7.guard = some (3, true)) (g8 : o8.guard = none) (g9 : o9.guard = none) (g10 : o10.guard = some (9, true)) (g11 : o11.guard = some (9, true)) (g12 : o12.guard = some (9, true)) (g13 : o13.guard = some (9, true)) (g14 : o14.guard = some (9, true)) (g15 : o15.guard = none)
    (hm : Tryd.prog.follows .mixedOrders = true) (hD : depsL [o0, o1, o2, o3, o4, o5, o6, o7, o8, o9, o10, o11, o12, o13, o14, o15] = D1) (hg : (((List.range ([o0, o1, o2, o3, o4, o5, o6, o7, o8, o9, o10, o11, o12, o13, o14, o15] : List Oper).length).all (fun i => match (([o0, o1, o2, o3, o4, o5, o6, o7, o8, o9, o10, o11, o12, o13, o14, o15] : List Oper)[i]?).bind (·.guard) with | none => true | some (j, _) => (D1.getD i []).contains j && ((([o0, o1, o2, o3, o4, o5, o6, o7, o8, o9, o10, o11, o12, o13, o14, o15] : List Oper)[j]?).bind (·.dst)).isSome))) = true) (hBB : ((List.range ([o0, o1, o2, o3, o4, o5, o6, o7, o8, o9, o10, o11, o12, o13, o14, o15] : List Oper).length).all (fun i => (D1.getD i []).all (fun j => decide (j < i)))) = true) (hds : ([o0, o1, o2, o3, o4, o5, o6, o7, o8, o9, o10, o11, o12, o13, o14, o15] : List Oper).map (·.dst) = S1) (hnd : dstB S1 = true) (hin : S1.all (fun x => x.all (fun s => decide (s < A.tmps.size))) = true)
    (hQ : ∀ vals w1, vals 15 = .bool false → Mid J (pre ++ yL s c) S (.slice a d cp) d c W w1 → Q .normal (finA vals 0 S1 A) w1) : (Code.region id ([o0, o1, o2, o3, o4, o5, o6, o7, o8, o9, o10, o11, o12, o13, o14, o15] : List Oper).toArray true).wpIn Fence.wide m Tryd.prog Q A W := by
  have hI : Ints W a d cp c := by
    obtain ⟨a', c', e, hI, -⟩ := Ints.of_owns ho hd9
    cases e
    exact hI
  have hbd : Below W.heap.size W W.drew := (Below.refl _ _).drew
  by_cases hd : 1 < d
  · have hd' : decide ((1 : Int) < (d : Int)) = true := by simp; omega
    cases hmay : mayL s c with
    | false =>
      have hM := hMay hd
      rw [hmay] at hM
      have hy : yL s c = [] := by unfold yL; rw [hmay, Bool.and_false]; rfl
      refine wp_region_vals (fun _ => trivial) rfl D1 S1 _ hm hD hg hBB hds hnd hin ⟨Det.nil _, hbd⟩ (steps1B h0 h2 h3 hB hd' hfm hM e0 e1 e2 e3 e4 e5 e6 e7 e8 e9 e10 e11 e12 e13 e14 e15 g0 g1 g2 g3 g4 g5 g6 g7 g8 g9 g10 g11 g12 g13 g14 g15) ?_
      rintro l vals w1 ⟨hDt, hb⟩ hall
      refine hQ vals w1 (hDt 15 _ rfl (hall 15 (by simp))) ?_
      rw [hy, List.append_nil]
      exact Mid.here JI hJ ho hb
    | true =>
      have hM := hMay hd
      rw [hmay] at hM
      have hy : yL s c = [c] := by unfold yL; rw [hmay, Bool.and_true, decide_eq_true (by omega)]; rfl
      refine wp_region_vals (fun _ => trivial) rfl D1 S1 _ hm hD hg hBB hds hnd hin ⟨Det.nil _, fun _ => ⟨hbd, fun q => (by cases q)⟩, fun q => (by cases q)⟩ (steps1C (R := fun w1 => Mid J (pre ++ [c]) S (.slice a d cp) d c W w1) h0 h2 h3 h4 hB hd' hI hd9 hfm hM (fun X a2 c2 hbX hoX => ?_) e0 e1 e2 e3 e4 e5 e6 e7 e8 e9 e10 e11 e12 e13 e14 e15 g0 g1 g2 g3 g4 g5 g6 g7 g8 g9 g10 g11 g12 g13 g14 g15) ?_
      · have hJX : J pre S X := JI.frame hJ (Keep.of_below hbX (JI.lt hJ))
        obtain ⟨a3, c3, e3, hIX, -⟩ := Ints.of_owns hoX hd9
        cases e3
        have hl2 : ∀ b, (Value.slice a2 c.length c2).ownBlock = some b → W.heap.size ≤ b ∧ b < X.heap.size := fun b hb => by
          rw [← hdl] at hb
          exact hoX.lt b hb
        have hy' := hY (m - 1) pre c S X a2 c2 hJX (by rw [← hdl]; exact hIX) (fun b hb => ⟨fun h => by have := JI.lt hJ _ h; have := (hl2 b hb).1; omega, (hl2 b hb).2⟩) (hWy hd hmay)
        rw [← hdl] at hy' hl2
        obtain ⟨fn', tmps, assign, body, hy1, hR⟩ := hy'
        refine ⟨fn', tmps, assign, body, hy1, hR.mono ?_⟩
        rintro e X' ⟨rfl, S', j1, j2, j3⟩
        have hsz := hbX.size
        refine ⟨rfl, S', j1, fun b hb => ?_, ?_, ?_⟩
        · rcases j2 b hb with h | h | h
          · exact .inl h
          · exact .inr (hl2 b h).1
          · exact .inr (by omega)
        · refine owns_keep ho fun b hb => ?_
          have hlt : b < W.heap.size := (ho.lt b hb).2
          exact (j3.block b ⟨by omega, hvS b hb⟩).trans (hbX.block b hlt)
        · exact (Keep.of_below (S := fun b => b < W.heap.size ∧ ¬ S b ∧ (Value.slice a d cp).ownBlock ≠ some b) hbX (fun b hb => hb.1)).trans (j3.sub fun b hb => ⟨by omega, hb.2.1⟩)
      · rintro l vals w1 ⟨hDt, hb⟩ hall
        refine hQ vals w1 (hDt 15 _ rfl (hall 15 (by simp))) ?_
        rw [hy]
        exact hb.2 (hall 13 (by simp))
  · have hd' : decide ((1 : Int) < (d : Int)) = false := by simp; omega
    have hy : yL s c = [] := by unfold yL; rw [decide_eq_false (by omega), Bool.false_and]; rfl
    refine wp_region_vals (fun _ => trivial) rfl D1 S1 _ hm hD hg hBB hds hnd hin ⟨Det.nil _, hbd⟩ (steps1A (W := W) h0 hd' e0 e1 e2 e3 e4 e5 e6 e7 e8 e9 e10 e11 e12 e13 e14 e15 g0 g1 g2 g3 g4 g5 g6 g7 g8 g9 g10 g11 g12 g13 g14 g15) ?_
    rintro l vals w1 ⟨hDt, hb⟩ hall
    refine hQ vals w1 (hDt 15 _ rfl (hall 15 (by simp))) ?_
    rw [hy, List.append_nil]
    exact Mid.here JI hJ ho hb
set_option maxHeartbeats 1000000 in
theorem reg6 {J : List (List Int) → (Nat → Prop) → World → Prop} (JI : Inv J) {m id u k : Nat} {Q : Exit → Act → World → Prop} {A : Act} {W : World} {a : Option Addr} {d cp : Nat} {c : List Int} {Bm Bs By Bg : Nat} {pre L2 : List (List Int)} {S : Nat → Prop}
    (h0 : A.tmps[0]? = some (.slice a d cp)) (h1 : A.tmps[1]? = some (.int .i64 (u : Int))) (h10 : A.tmps[10]? = some (.int .i64 (k : Int))) (h5 : A.tmps[5]? = some (.pointer (some ⟨Bg, 0, none⟩))) (hu : u < 256) (hk : k < 8) (hlg : Bg < W.heap.size) (hcg : W.cell? ⟨Bg, 0, none⟩ = some (growV Bm Bs By Bg)) (hJ : J pre S W) (ho : W.ownsRow 0 3 1 (.slice a d cp) d (intVals c)) (hd9 : d ≤ 1000)
    (hRec : u.testBit k = false → ∀ (X : World) (v2 : Value) (w2 : World), Below W.heap.size W X → X.ownsRow 0 3 1 (.slice a d cp) d (intVals c) → w2.ownsRow 0 3 1 v2 (d + 1) (intVals (c ++ [(k : Int)])) → X.grownBy w2 (Value.slice a d cp).ownBlock → ((∃ g cap, Value.slice a d cp = .slice (some ⟨g, 0, none⟩) d cap ∧ v2 = .slice (some ⟨g, 0, none⟩) (d + 1) cap) ∨ (v2.ownBlock = some X.heap.size ∧ Below X.heap.size X w2)) → w2.cell? ⟨Bg, 0, none⟩ = some (growV Bm Bs By Bg) ∧ Calls Tryd.prog 32 #[v2, .int .i64 ((u ||| 2 ^ k : Nat) : Int), .pointer (some ⟨Bm, 0, none⟩), .pointer (some ⟨Bs, 0, none⟩), .pointer (some ⟨By, 0, none⟩), .pointer (some ⟨Bg, 0, none⟩)] w2 fun e w3 => e = .returned (.bool true) ∧ Mid J (pre ++ L2) S (.slice a d cp) d c W w3)
    {o0 o1 o2 o3 o4 o5 o6 o7 o8 o9 o10 o11 o12 o13 o14 o15 o16 o17 : Oper}
    (e0 : o0.op = .move (.tmp 1)) (e1 : o1.op = .move (.tmp 10)) (e2 : o2.op = .binOp .shr 3 (.tmp 42) (.tmp 43) 3) (e3 : o3.op = .binOp .and 3 (.tmp 44) (.const (.int .i64 1)) 3) (e4 : o4.op = .binOp .eql 3 (.tmp 45) (.const (.int .i64 0)) 3) (e5 : o5.op = .move (.tmp 46)) (e6 : o6.op = .load 63 (.tmp 5)) (e7 : o7.op = .move (.tmp 0)) (e8 : o8.op = .move (.tmp 10)) (e9 : o9.op = .buildSlice 34 1 #[(0, .tmp 50)]) (e10 : o10.op = .call { callee := .builtin .append, args := #[.tmp 49, .tmp 51], argTypes := #[34, 34] }) (e11 : o11.op = .move (.tmp 1)) (e12 : o12.op = .move (.tmp 10)) (e13 : o13.op = .binOp .shl 3 (.const (.int .i64 1)) (.tmp 54) 3) (e14 : o14.op = .binOp .or 3 (.tmp 53) (.tmp 55) 3) (e15 : o15.op = .call { callee := .value (.tmp 48), args := #[.tmp 52, .tmp 56], argTypes := #[34, 3] }) (e16 : o16.op = .unOp .not 4 (.tmp 57)) (e17 : o17.op = .pick (.tmp 47) (.tmp 58) (.const (.bool false)))
    (g0 : o0.guard = none) (g1 : o1.guard = none) (g2 : o2.guard = none) (g3 : o3.guard = none) (g4 : o4.guard = none) (g5 : o5.guard = none) (g6 : o6.guard = some (5, true)) (g7 : o7.guard = some (5, true)) (g8 : o8.guard = some (5, true)) (g9 : o9.guard = some (5, true)) (g10 : o10.guard = some (5, true)) (g11 : o11.guard = some (5, true)) (g12 : o12.guard = some (5, true)) (g13 : o13.guard = some (5, true)) (g14 : o14.guard = some (5, true)) (g15 : o15.guard = some (5, true)) (g16 : o16.guard = some (5, true)) (g17 : o17.guard = none)
    (hm : Tryd.prog.follows .mixedOrders = true) (hD : depsL [o0, o1, o2, o3, o4, o5, o6, o7, o8, o9, o10, o11, o12, o13, o14, o15, o16, o17] = D6) (hg : (((List.range ([o0, o1, o2, o3, o4, o5, o6, o7, o8, o9, o10, o11, o12, o13, o14, o15, o16, o17] : List Oper).length).all (fun i => match (([o0, o1, o2, o3, o4, o5, o6, o7, o8, o9, o10, o11, o12, o13, o14, o15, o16, o17] : List Oper)[i]?).bind (·.guard) with | none => true | some (j, _) => (D6.getD i []).contains j && ((([o0, o1, o2, o3, o4, o5, o6, o7, o8, o9, o10, o11, o12, o13, o14, o15, o16, o17] : List Oper)[j]?).bind (·.dst)).isSome))) = true) (hBB : ((List.range ([o0, o1, o2, o3, o4, o5, o6, o7, o8, o9, o10, o11, o12, o13, o14, o15, o16, o17] : List Oper).length).all (fun i => (D6.getD i []).all (fun j => decide (j < i)))) = true) (hds : ([o0, o1, o2, o3, o4, o5, o6, o7, o8, o9, o10, o11, o12, o13, o14, o15, o16, o17] : List Oper).map (·.dst) = S6) (hnd : dstB S6 = true) (hin : S6.all (fun x => x.all (fun s => decide (s < A.tmps.size))) = true)
    (hQ : ∀ vals w1, vals 17 = .bool false → Mid J (pre ++ if u.testBit k then [] else L2) S (.slice a d cp) d c W w1 → Q .normal (finA vals 0 S6 A) w1) : (Code.region id ([o0, o1, o2, o3, o4, o5, o6, o7, o8, o9, o10, o11, o12, o13, o14, o15, o16, o17] : List Oper).toArray true).wpIn Fence.wide m Tryd.prog Q A W := by
  have hbd : Below W.heap.size W W.drew := (Below.refl _ _).drew
  cases hbit : u.testBit k with
  | true =>
    refine wp_region_vals (fun _ => trivial) rfl D6 S6 _ hm hD hg hBB hds hnd hin ⟨Det.nil _, hbd⟩ (steps6U (W := W) h1 h10 hu hk hbit e0 e1 e2 e3 e4 e5 e6 e7 e8 e9 e10 e11 e12 e13 e14 e15 e16 e17 g0 g1 g2 g3 g4 g5 g6 g7 g8 g9 g10 g11 g12 g13 g14 g15 g16 g17) ?_
    rintro l vals w1 ⟨hDt, hb⟩ hall
    refine hQ vals w1 (hDt 17 _ rfl (hall 17 (by simp))) ?_
    rw [hbit, if_pos rfl, List.append_nil]
    exact Mid.here JI hJ ho hb
  | false =>
    refine wp_region_vals (fun _ => trivial) rfl D6 S6 _ hm hD hg hBB hds hnd hin ⟨Det.nil _, fun _ => ⟨hbd, fun q => (by cases q)⟩, fun q => (by cases q), fun q => (by cases q)⟩ (steps6F (W := W) h0 h1 h10 h5 hu hk hbit hd9 hlg hcg ho (hRec hbit) e0 e1 e2 e3 e4 e5 e6 e7 e8 e9 e10 e11 e12 e13 e14 e15 e16 e17 g0 g1 g2 g3 g4 g5 g6 g7 g8 g9 g10 g11 g12 g13 g14 g15 g16 g17) ?_
    rintro l vals w1 ⟨hDt, hb⟩ hall
    refine hQ vals w1 (hDt 17 _ rfl (hall 17 (by simp))) ?_
    rw [hbit, if_neg (by simp)]
    exact hb.2.2 (hall 15 (by simp))
end Go.Proofs.YtffnhflbhckhbaaDoor
