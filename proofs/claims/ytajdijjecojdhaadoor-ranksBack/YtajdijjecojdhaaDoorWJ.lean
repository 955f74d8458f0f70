import Derived.Test.YtajdijjecojdhaaDoorWH
namespace Go.Proofs.YtajdijjecojdhaaDoor
open Go.RowKit
def likesB (others : List Ag) (l : List Int) : List UInt8 := l.flatMap fun k => 32 :: (agAt others k.toNat).name.data.toList
def roomB (room : Int) : List UInt8 := if room = 1 then [] else 32 :: Lib.decDigits room.toNat
def lineB (word : List UInt8) (others : List Ag) (g : Ag) : List UInt8 := word ++ [32] ++ g.name.data.toList ++ roomB g.room ++ [32, 58] ++ likesB others g.likes ++ [10]
def sideB (word : List UInt8) (others side : List Ag) : List UInt8 := side.flatMap (lineB word others)
/-- What a side must be for its lines to be written: rooms and places that may be, and no more than so many. -/
def Fair (others : List Ag) (g : Ag) : Prop := 1 ≤ g.room ∧ g.room ≤ 4 ∧ g.name.size ≤ 500 ∧ g.likes.length ≤ 500 ∧ ∀ k ∈ g.likes, 0 ≤ k ∧ k < others.length
theorem likesB_length (others : List Ag) (ho : ∀ g ∈ others, g.name.size ≤ 500) (l : List Int) : (likesB others l).length ≤ l.length * 501 := by
  induction l with
  | nil => simp [likesB]
  | cons k l ih =>
    have h : (agAt others k.toNat).name.size ≤ 500 := by
      unfold agAt
      cases h : others[k.toNat]? with
      | none => simp [agNone]
      | some g => exact ho g (List.mem_of_getElem? h)
    have e : (agAt others k.toNat).name.data.toList.length = (agAt others k.toNat).name.size := by rw [Array.length_toList]; rfl
    simp only [likesB, List.flatMap_cons, List.length_append, List.length_cons] at ih ⊢
    omega
theorem decDigits_small (u : Nat) (h : u < 10) : Lib.decDigits u = [UInt8.ofNat (48 + u)] := by rw [Lib.decDigits, dif_pos h]
theorem lineB_length (word : List UInt8) (hw : word.length ≤ 10) (others : List Ag) (ho : ∀ g ∈ others, g.name.size ≤ 500) (g : Ag) (hg : Fair others g) : (lineB word others g).length ≤ 260000 := by
  have h1 := likesB_length others ho g.likes
  obtain ⟨r1, r2, r3, r4, _⟩ := hg
  have e : g.name.data.toList.length = g.name.size := by rw [Array.length_toList]; rfl
  have hr : (roomB g.room).length ≤ 10 := by
    unfold roomB
    split
    · simp
    · have h4 : (Lib.decDigits g.room.toNat).length = 1 := by rw [decDigits_small _ (by omega)]; rfl
      simp only [List.length_cons]
      omega
  simp only [lineB, List.length_append, List.length_cons, List.length_nil]
  omega
theorem sideB_length (word : List UInt8) (hw : word.length ≤ 10) (others : List Ag) (ho : ∀ g ∈ others, g.name.size ≤ 500) (side : List Ag) (hg : ∀ g ∈ side, Fair others g) : (sideB word others side).length ≤ side.length * 260000 := by
  induction side with
  | nil => simp [sideB]
  | cons g l ih =>
    have h1 := lineB_length word hw others ho g (hg g (by simp))
    have h2 := ih (fun x hx => hg x (by simp [hx]))
    simp only [sideB, List.flatMap_cons, List.length_append, List.length_cons] at h2 ⊢
    omega
theorem sideB_take (word : List UInt8) (others side : List Ag) (k : Nat) (h : k < side.length) : sideB word others (side.take (k+1)) = sideB word others (side.take k) ++ lineB word others (agAt side k) := by
  have e : agAt side k = side[k] := by unfold agAt; rw [List.getElem?_eq_getElem h]; rfl
  rw [List.take_succ_eq_append_getElem h, e]
  unfold sideB
  rw [List.flatMap_append, List.flatMap_singleton]
theorem likesB_take (others : List Ag) (l : List Int) (m : Nat) (h : m < l.length) : likesB others (l.take (m+1)) = likesB others (l.take m) ++ (32 :: (agAt others (l[m]?.getD 0).toNat).name.data.toList) := by
  rw [List.take_succ_eq_append_getElem h, List.getElem?_eq_getElem h]
  unfold likesB
  rw [List.flatMap_append, List.flatMap_singleton]
  rfl
theorem byteCells_append (a b : List UInt8) : Lib.byteCells (a ++ b) = Lib.byteCells a ++ Lib.byteCells b := by simp [Lib.byteCells]
theorem strCells_eq (s : ByteArray) : Lib.strCells s = Lib.byteCells s.data.toList := rfl
theorem IsBuilderF_alloc {B b : Nat} {bs : List Value} {w : World} (h : Lib.IsBuilderF 43 5 B b bs w) (o : Obj) : Lib.IsBuilderF 43 5 B b bs (w.alloc o) :=
  h.elim (fun x => .inl (x.alloc o)) (fun x => .inr (x.alloc o))
theorem IsBuilderF_lt {B b : Nat} {bs : List Value} {w : World} (h : Lib.IsBuilderF 43 5 B b bs w) : b < w.heap.size := h.elim (fun x => x.lt) (fun x => x.lt)
/-- Another text is written behind what stands there; a box of an agent that lies beside the builder stays. -/
theorem write_l (B b : Nat) (l : List UInt8) (s : ByteArray) (x : Nat) (cs : Array Value) (w : World) (h : Lib.IsBuilderF 43 5 B b (Lib.byteCells l) w) (hlen : l.length ≤ 2000000000) (hsl : s.size ≤ 2000) (hBw : B ≤ w.heap.size)
    (hx : w.heap[x]? = some (.cells cs 27)) (hxb : b < x) :
    Calls Tryd.prog 36 #[.pointer (some ⟨b, 0, none⟩), .string s] w fun e w' => e = .returned (.tuple #[.int .i64 s.size, .nilIface]) ∧ Lib.IsBuilderF 43 5 B b (Lib.byteCells (l ++ s.data.toList)) w' ∧ Below B w w' ∧ w'.heap[x]? = some (.cells cs 27) := by
  refine (write_any B b (Lib.byteCells l) s w h (by rw [Lib.byteCells_length]; omega) hBw).mono ?_
  rintro e w' ⟨rfl, h1, h2, h3⟩
  refine ⟨rfl, ?_, h2, h3 x _ hx (by simp; omega) (fun c fz e => by simp at e)⟩
  rw [byteCells_append, ← strCells_eq]
  exact h1
theorem size2 (a b : ByteArray) (n m : Nat) (ha : a.size = n) (hb : b.size = m) : (a ++ b).size = n + m := by rw [ByteArray.size_append, ha, hb]
theorem size3 (a b c : ByteArray) (n : Nat) (hb : b.size = n) : (a ++ b ++ c).size = a.size + n + c.size := by rw [ByteArray.size_append, ByteArray.size_append, hb]
theorem data_append (a b : ByteArray) : (a ++ b).data.toList = a.data.toList ++ b.data.toList := by simp [ByteArray.data_append]
theorem write_p (B b : Nat) (l : List UInt8) (s : ByteArray) (w : World) (h : Lib.IsBuilderF 43 5 B b (Lib.byteCells l) w) (hlen : l.length ≤ 2000000000) (hsl : s.size ≤ 2000) (hBw : B ≤ w.heap.size) :
    Calls Tryd.prog 36 #[.pointer (some ⟨b, 0, none⟩), .string s] w fun e w' => e = .returned (.tuple #[.int .i64 s.size, .nilIface]) ∧ Lib.IsBuilderF 43 5 B b (Lib.byteCells (l ++ s.data.toList)) w' ∧ Below B w w' := by
  refine (write_any B b (Lib.byteCells l) s w h (by rw [Lib.byteCells_length]; omega) hBw).mono ?_
  rintro e w' ⟨rfl, h1, h2, h3⟩
  refine ⟨rfl, ?_, h2⟩
  rw [byteCells_append, ← strCells_eq]
  exact h1
theorem line_one (L : List UInt8) (word nm : ByteArray) (others : List Ag) (la : Option Addr) (ln lc : Nat) (likes : List Int) :
    ((L ++ (word ++ ⟨#[32]⟩ ++ nm).data.toList) ++ (⟨#[32, 58]⟩ : ByteArray).data.toList ++ likesB others likes) ++ (⟨#[10]⟩ : ByteArray).data.toList = L ++ lineB word.data.toList others ⟨nm, 1, la, ln, lc, likes⟩ := by
  simp [lineB, roomB]
theorem line_many (L : List UInt8) (word nm : ByteArray) (r : Nat) (hr : ¬ (r : Int) = 1) (others : List Ag) (la : Option Addr) (ln lc : Nat) (likes : List Int) :
    (((L ++ (word ++ ⟨#[32]⟩ ++ nm).data.toList) ++ ((⟨#[32]⟩ : ByteArray) ++ ⟨(Lib.decDigits r).toArray⟩).data.toList) ++ (⟨#[32, 58]⟩ : ByteArray).data.toList ++ likesB others likes) ++ (⟨#[10]⟩ : ByteArray).data.toList = L ++ lineB word.data.toList others ⟨nm, r, la, ln, lc, likes⟩ := by
  simp [lineB, roomB, hr]
theorem cells_of {w : World} {x : Nat} {cs : Array Value} {t : TypeId} (h : w.heap[x]? = some (.cells cs t)) (i : Nat) : w.cell? ⟨x, i, none⟩ = cs[i]? := by simp [World.cell?, h]
theorem data_len (s : ByteArray) : s.data.toList.length = s.size := by rw [Array.length_toList]; rfl
end Go.Proofs.YtajdijjecojdhaaDoor
