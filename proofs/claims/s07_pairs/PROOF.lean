import PyProof.Rows.All
import KE.OsGo
import KE.OsArgs
import PySem.Challenge.RW_handedover_s07_pairs
namespace My
open Sc11 Sc11Neutral
/-- The specification's run of P has come to Q: k numbers were asked for, and what was asked is told in asked. -/
structure Tie (P : Proc) (s : List Int) (k : Nat) (asked : List Int) (Q : Proc) : Prop where
  eq : through 100000 s P [] = through (100000 - k) (s.drop k) Q asked.reverse
theorem Tie.start (P : Proc) (s : List Int) : Tie P s 0 [] P := ⟨rfl⟩
theorem drop_head (s : List Int) (k : Nat) : (s.drop k).headD 0 = s.getD k 0 := by
  induction s generalizing k with
  | nil => simp
  | cons a s ih => cases k with
    | zero => rfl
    | succ k => simp
theorem Tie.turn {P : Proc} {s : List Int} {k : Nat} {asked : List Int} {w c : Nat} {x y : Int} {K : Int → Proc} (T : Tie P s k asked (.ask ⟨w, c, x, y⟩ K)) (hk : k < 100000) :
    Tie P s (k + 1) (asked ++ [(w : Int), (c : Int), x, y]) (K (s.getD k 0)) := by
  refine ⟨?_⟩
  rw [T.eq]
  have e : 100000 - k = (100000 - (k + 1)) + 1 := by omega
  rw [e]
  show through (100000 - (k + 1)) ((s.drop k).drop 1) (K ((s.drop k).headD 0)) (y :: x :: (c : Int) :: (w : Int) :: asked.reverse) = _
  rw [drop_head, List.drop_drop, List.reverse_append]
  rfl
theorem Tie.done {P : Proc} {s : List Int} {k : Nat} {asked : List Int} {z : Ans} (T : Tie P s k asked (.done z)) (hk : k < 100000) :
    through 100000 s P [] = (asked, z) := by
  rw [T.eq]
  have e : 100000 - k = (100000 - (k + 1)) + 1 := by omega
  rw [e]
  show (asked.reverse.reverse, z) = _
  rw [List.reverse_reverse]
/-- What is given back. -/
theorem Tie.given {c : Sc11Neutral.Call} {q : Sc11.Call} {s : List Int} {k : Nat} {asked : List Int} {z : Ans} (hc : callOf c = some (q, s)) (T : Tie (proc q) s k asked (.done z)) (hk : k < 100000) :
    f c = z.value :: (listed z.out ++ listed asked) := by
  unfold f
  rw [hc]
  show (through 100000 s (proc q) []).2.value :: (listed (through 100000 s (proc q) []).2.out ++ listed (through 100000 s (proc q) []).1) = _
  rw [T.done hk]
theorem nat_of {f : Int} (h : 0 ≤ f) : ((f.toNat : Nat) : Int) = f := Int.toNat_of_nonneg h

/-- fold -/
structure Fold (f c b : Int) (s pre asked : List Int) (r : Int) : Prop where
  eq : 0 ≤ f → 0 ≤ c → ∀ rest, pre.length + rest.length ≤ 5000 → Tie (Sc11.fold f.toNat c.toNat (pre ++ rest) b number) s pre.length asked (Sc11.fold f.toNat c.toNat rest r number)
theorem Fold.start (f c b : Int) (s : List Int) : Fold f c b s [] [] b := ⟨fun _ _ _ _ => Tie.start _ _⟩
theorem Fold.turn {f c b r x v : Int} {s pre asked : List Int} (T : Fold f c b s pre asked r) (hv : v = s.getD pre.length 0) :
    Fold f c b s (pre ++ [x]) (asked ++ [f, c, r, x]) v := by
  refine ⟨fun hf hc rest h => ?_⟩
  rw [List.length_append, List.length_singleton] at h
  have t := (T.eq hf hc (x :: rest) (by rw [List.length_cons]; omega)).turn (by omega)
  rw [nat_of hf, nat_of hc, ← hv] at t
  rw [List.append_assoc, List.length_append, List.length_singleton]
  exact t
theorem Fold.whole {f c b r : Int} {s a asked : List Int} (T : Fold f c b s a asked r) (hf : 0 ≤ f) (hc : 0 ≤ c) (h : a.length ≤ 4096) :
    PySc11.fold f c b a s = r :: 0 :: (asked.length : Int) :: asked := by
  have t := T.eq hf hc [] (by rw [List.length_nil]; omega)
  rw [List.append_nil] at t
  exact t.given (q := .fold a f.toNat c.toNat b) rfl (by omega)
/-- back: the row turned round -/
structure Back (f c b : Int) (s pre asked : List Int) (r : Int) : Prop where
  eq : 0 ≤ f → 0 ≤ c → ∀ rest, pre.length + rest.length ≤ 5000 → Tie (Sc11.fromEnd f.toNat c.toNat (pre ++ rest) b number) s pre.length asked (Sc11.fromEnd f.toNat c.toNat rest r number)
theorem Back.start (f c b : Int) (s : List Int) : Back f c b s [] [] b := ⟨fun _ _ _ _ => Tie.start _ _⟩
theorem Back.turn {f c b r x v : Int} {s pre asked : List Int} (T : Back f c b s pre asked r) (hv : v = s.getD pre.length 0) :
    Back f c b s (pre ++ [x]) (asked ++ [f, c, x, r]) v := by
  refine ⟨fun hf hc rest h => ?_⟩
  rw [List.length_append, List.length_singleton] at h
  have t := (T.eq hf hc (x :: rest) (by rw [List.length_cons]; omega)).turn (by omega)
  rw [nat_of hf, nat_of hc, ← hv] at t
  rw [List.append_assoc, List.length_append, List.length_singleton]
  exact t
theorem Back.whole {f c b r : Int} {s a asked : List Int} (T : Back f c b s a.reverse asked r) (hf : 0 ≤ f) (hc : 0 ≤ c) (h : a.length ≤ 4096) :
    PySc11.back f c b a s = r :: 0 :: (asked.length : Int) :: asked := by
  have t := T.eq hf hc [] (by rw [List.length_nil, List.length_reverse]; omega)
  rw [List.append_nil] at t
  exact t.given (q := .back a f.toNat c.toNat b) rfl (by rw [List.length_reverse]; omega)

/-- scan -/
structure Scan (f c b : Int) (s pre asked : List Int) (r : Int) (told : List Int) : Prop where
  eq : 0 ≤ f → 0 ≤ c → ∀ rest, pre.length + rest.length ≤ 5000 → Tie (Sc11.scan f.toNat c.toNat (pre ++ rest) b []) s pre.length asked (Sc11.scan f.toNat c.toNat rest r told.reverse)
theorem Scan.start (f c b : Int) (s : List Int) : Scan f c b s [] [] b [] := ⟨fun _ _ _ _ => Tie.start _ _⟩
theorem Scan.turn {f c b r x v : Int} {s pre asked told : List Int} (T : Scan f c b s pre asked r told) (hv : v = s.getD pre.length 0) :
    Scan f c b s (pre ++ [x]) (asked ++ [f, c, r, x]) v (told ++ [v]) := by
  refine ⟨fun hf hc rest h => ?_⟩
  rw [List.length_append, List.length_singleton] at h
  have t := (T.eq hf hc (x :: rest) (by rw [List.length_cons]; omega)).turn (by omega)
  rw [nat_of hf, nat_of hc, ← hv] at t
  rw [List.append_assoc, List.length_append, List.length_singleton, List.reverse_append]
  exact t
theorem Scan.whole {f c b r : Int} {s a asked told : List Int} (T : Scan f c b s a asked r told) (hf : 0 ≤ f) (hc : 0 ≤ c) (h : a.length ≤ 4096) :
    PySc11.scan f c b a s = (told.length : Int) :: (listed told ++ listed asked) := by
  have t := T.eq hf hc [] (by rw [List.length_nil]; omega)
  rw [List.append_nil] at t
  have e := t.given (c := [[3, f, c, b], a, s]) (q := .scan a f.toNat c.toNat b) rfl (by omega)
  rw [List.reverse_reverse, List.length_reverse] at e
  exact e
/-- map with a function -/
structure MapF (g c : Int) (s pre asked told : List Int) : Prop where
  eq : 0 ≤ g → 0 ≤ c → ∀ rest, pre.length + rest.length ≤ 5000 → Tie (Sc11.map (maybe g) c.toNat (pre ++ rest) []) s pre.length asked (Sc11.map (maybe g) c.toNat rest told.reverse)
theorem MapF.start (g c : Int) (s : List Int) : MapF g c s [] [] [] := ⟨fun _ _ _ _ => Tie.start _ _⟩
theorem maybe_some {g : Int} (h : 0 ≤ g) : maybe g = some g.toNat := if_neg (by omega)
theorem maybe_none {g : Int} (h : g < 0) : maybe g = none := if_pos h
theorem MapF.turn {g c x v : Int} {s pre asked told : List Int} (T : MapF g c s pre asked told) (hv : v = s.getD pre.length 0) :
    MapF g c s (pre ++ [x]) (asked ++ [g, c, x, 0]) (told ++ [v]) := by
  refine ⟨fun hg hc rest h => ?_⟩
  rw [List.length_append, List.length_singleton] at h
  have t := T.eq hg hc (x :: rest) (by rw [List.length_cons]; omega)
  rw [maybe_some hg] at t ⊢
  have t := Tie.turn (K := fun v => Sc11.map (some g.toNat) c.toNat rest (v :: told.reverse)) t (by omega)
  rw [nat_of hg, nat_of hc, ← hv] at t
  rw [List.append_assoc, List.length_append, List.length_singleton, List.reverse_append]
  exact t
theorem MapF.whole {g c : Int} {s a asked told : List Int} (T : MapF g c s a asked told) (hg : 0 ≤ g) (hc : 0 ≤ c) (h : a.length ≤ 4096) :
    PySc11.map_row g c a s = (told.length : Int) :: (listed told ++ listed asked) := by
  have t := T.eq hg hc [] (by rw [List.length_nil]; omega)
  rw [List.append_nil] at t
  have e := t.given (c := [[4, g, c], a, s]) (q := .map a (maybe g) c.toNat) rfl (by omega)
  rw [List.reverse_reverse, List.length_reverse] at e
  exact e
/-- map with -1 -/
theorem map_none (c : Nat) : ∀ (l done : List Int), Sc11.map none c l done = .done ⟨((l.length + done.length : Nat) : Int), done.reverse ++ l⟩
  | [], done => by
    show Proc.done ⟨(done.length : Int), done.reverse⟩ = _
    rw [List.append_nil, List.length_nil, Nat.zero_add]
  | x :: l, done => by
    show Sc11.map none c l (x :: done) = _
    rw [map_none c l (x :: done), List.reverse_cons, List.append_assoc, List.length_cons, List.length_cons]
    have e : l.length + (done.length + 1) = l.length + 1 + done.length := by omega
    rw [e]
    rfl
theorem map_whole_none {g c : Int} {s a : List Int} (hg : g < 0) : PySc11.map_row g c a s = (a.length : Int) :: (listed a ++ listed []) := by
  have t : Tie (proc (.map a (maybe g) c.toNat)) s 0 [] (.done ⟨(a.length : Int), a⟩) := by
    have e : proc (.map a (maybe g) c.toNat) = .done ⟨(a.length : Int), a⟩ := by
      show Sc11.map (maybe g) c.toNat a [] = _
      rw [maybe_none hg, map_none]
      rfl
    rw [e]
    exact Tie.start _ _
  exact t.given (c := [[4, g, c], a, s]) rfl (by omega)

/-- keep and split -/
structure Keep (both : Bool) (p c : Int) (s pre asked yes no : List Int) : Prop where
  eq : 0 ≤ p → 0 ≤ c → ∀ rest, pre.length + rest.length ≤ 5000 → Tie (Sc11.keep p.toNat c.toNat both (pre ++ rest) [] []) s pre.length asked (Sc11.keep p.toNat c.toNat both rest yes.reverse no.reverse)
theorem Keep.start (both : Bool) (p c : Int) (s : List Int) : Keep both p c s [] [] [] [] := ⟨fun _ _ _ _ => Tie.start _ _⟩
theorem Keep.turn {both : Bool} {p c x v : Int} {s pre asked yes no yes' no' : List Int} (T : Keep both p c s pre asked yes no) (hv : v = s.getD pre.length 0)
    (h : (v ≠ 0 ∧ yes' = yes ++ [x] ∧ no' = no) ∨ (v = 0 ∧ yes' = yes ∧ no' = no ++ [x])) :
    Keep both p c s (pre ++ [x]) (asked ++ [p, c, x, 0]) yes' no' := by
  refine ⟨fun hg hc rest hr => ?_⟩
  rw [List.length_append, List.length_singleton] at hr
  have t := T.eq hg hc (x :: rest) (by rw [List.length_cons]; omega)
  have t := Tie.turn (K := fun v => if v ≠ 0 then Sc11.keep p.toNat c.toNat both rest (x :: yes.reverse) no.reverse else Sc11.keep p.toNat c.toNat both rest yes.reverse (x :: no.reverse)) t (by omega)
  rw [nat_of hg, nat_of hc, ← hv] at t
  rw [List.append_assoc, List.length_append, List.length_singleton]
  rcases h with ⟨h0, rfl, rfl⟩ | ⟨h0, rfl, rfl⟩
  · rw [if_pos h0] at t
    rw [List.reverse_append]
    exact t
  · rw [if_neg (fun h => h h0)] at t
    rw [List.reverse_append]
    exact t
theorem Keep.whole {p c : Int} {s a asked yes no : List Int} (T : Keep false p c s a asked yes no) (hp : 0 ≤ p) (hc : 0 ≤ c) (h : a.length ≤ 4096) :
    PySc11.keep p c a s = (yes.length : Int) :: (listed yes ++ listed asked) := by
  have t := T.eq hp hc [] (by rw [List.length_nil]; omega)
  rw [List.append_nil] at t
  have e := t.given (c := [[5, p, c], a, s]) (q := .keep a p.toNat c.toNat) rfl (by omega)
  rw [List.reverse_reverse, List.length_reverse, if_neg (by decide), List.append_nil] at e
  exact e
theorem Keep.whole2 {p c : Int} {s a asked yes no : List Int} (T : Keep true p c s a asked yes no) (hp : 0 ≤ p) (hc : 0 ≤ c) (h : a.length ≤ 4096) :
    PySc11.split p c a s = (yes.length : Int) :: (listed (yes ++ no) ++ listed asked) := by
  have t := T.eq hp hc [] (by rw [List.length_nil]; omega)
  rw [List.append_nil] at t
  have e := t.given (c := [[6, p, c], a, s]) (q := .split a p.toNat c.toNat) rfl (by omega)
  rw [List.reverse_reverse, List.length_reverse, if_pos rfl, List.reverse_reverse] at e
  exact e

/-- pairs: pre ends with the number asked of last -/
theorem pairs_turn {P : Proc} {f c x y v : Int} {s l asked told : List Int} {k : Nat} (T : Tie P s k asked (Sc11.pairs f.toNat c.toNat (x :: y :: l) told.reverse)) (hf : 0 ≤ f) (hc : 0 ≤ c) (hk : k < 100000) (hv : v = s.getD k 0) :
    Tie P s (k + 1) (asked ++ [f, c, x, y]) (Sc11.pairs f.toNat c.toNat (y :: l) (told ++ [v]).reverse) := by
  have t := Tie.turn (K := fun v => Sc11.pairs f.toNat c.toNat (y :: l) (v :: told.reverse)) T hk
  rw [nat_of hf, nat_of hc, ← hv] at t
  rw [List.reverse_append]
  exact t
/-- once -/
theorem once_turn {P : Proc} {f c last x v : Int} {s l asked told : List Int} {k : Nat} (T : Tie P s k asked (Sc11.once f.toNat c.toNat last (x :: l) told.reverse)) (hf : 0 ≤ f) (hc : 0 ≤ c) (hk : k < 100000) (hv : v = s.getD k 0) :
    Tie P s (k + 1) (asked ++ [f, c, last, x]) (if v = 0 then Sc11.once f.toNat c.toNat x l (told ++ [x]).reverse else Sc11.once f.toNat c.toNat last l told.reverse) := by
  have t := Tie.turn (K := fun v => if v = 0 then Sc11.once f.toNat c.toNat x l (x :: told.reverse) else Sc11.once f.toNat c.toNat last l told.reverse) T hk
  rw [nat_of hf, nat_of hc, ← hv] at t
  rw [List.reverse_append]
  exact t
/-- merge -/
theorem merge_turn {P : Proc} {f c x y v : Int} {s a b asked told : List Int} {k n : Nat} (T : Tie P s k asked (Sc11.merge f.toNat c.toNat (n + 1) (x :: a) (y :: b) told.reverse)) (hf : 0 ≤ f) (hc : 0 ≤ c) (hk : k < 100000) (hv : v = s.getD k 0) :
    Tie P s (k + 1) (asked ++ [f, c, y, x]) (if v ≠ 0 then Sc11.merge f.toNat c.toNat n (x :: a) b (told ++ [y]).reverse else Sc11.merge f.toNat c.toNat n a (y :: b) (told ++ [x]).reverse) := by
  have t := Tie.turn (K := fun v => if v ≠ 0 then Sc11.merge f.toNat c.toNat n (x :: a) b (y :: told.reverse) else Sc11.merge f.toNat c.toNat n a (y :: b) (x :: told.reverse)) T hk
  rw [nat_of hf, nat_of hc, ← hv] at t
  rw [List.reverse_append, List.reverse_append]
  exact t
theorem merge_end (f c : Nat) (n : Nat) (a b told : List Int) (h : a = [] ∨ b = []) : Sc11.merge f c (n + 1) a b told.reverse = .done ⟨((told ++ a ++ b).length : Int), told ++ a ++ b⟩ := by
  cases a with
  | nil =>
    show Proc.done ⟨((told.reverse.length + b.length : Nat) : Int), told.reverse.reverse ++ b⟩ = _
    rw [List.reverse_reverse, List.append_nil, List.length_append, List.length_reverse]
  | cons x a =>
    rcases h with h | h
    · cases h
    · subst h
      show Proc.done ⟨((told.reverse.length + (x :: a).length : Nat) : Int), told.reverse.reverse ++ (x :: a)⟩ = _
      rw [List.reverse_reverse, List.append_nil, List.length_append, List.length_reverse]
/-- times -/
theorem times_turn {P : Proc} {g c x v : Int} {s asked : List Int} {k n : Nat} (T : Tie P s k asked (Sc11.times g.toNat c.toNat (n + 1) x)) (hg : 0 ≤ g) (hc : 0 ≤ c) (hk : k < 100000) (hv : v = s.getD k 0) :
    Tie P s (k + 1) (asked ++ [g, c, x, 0]) (if v = x then .done { value := x } else Sc11.times g.toNat c.toNat n v) := by
  have t := Tie.turn (K := fun y => if y = x then Proc.done { value := x } else Sc11.times g.toNat c.toNat n y) T hk
  rw [nat_of hg, nat_of hc, ← hv] at t
  exact t
/-- search -/
theorem search_turn {P : Proc} {p c lo hi m v : Int} {s asked : List Int} {k n : Nat} (T : Tie P s k asked (Sc11.search p.toNat c.toNat (n + 1) lo hi)) (hp : 0 ≤ p) (hc : 0 ≤ c) (hk : k < 100000) (hlt : lo < hi) (hm : m = lo + (hi - lo) / 2) (hv : v = s.getD k 0) :
    Tie P s (k + 1) (asked ++ [p, c, m, 0]) (if v ≠ 0 then Sc11.search p.toNat c.toNat n lo m else Sc11.search p.toNat c.toNat n (m + 1) hi) := by
  have e : Sc11.search p.toNat c.toNat (n + 1) lo hi = .ask ⟨p.toNat, c.toNat, m, 0⟩ fun v => if v ≠ 0 then Sc11.search p.toNat c.toNat n lo m else Sc11.search p.toNat c.toNat n (m + 1) hi := by
    subst hm
    show (if hi ≤ lo then _ else _) = _
    rw [if_neg (by omega)]
  rw [e] at T
  have t := Tie.turn T hk
  rw [nat_of hp, nat_of hc, ← hv] at t
  exact t
theorem search_end (p c n : Nat) {lo hi : Int} (h : hi ≤ lo) : Sc11.search p c n lo hi = .done { value := lo } := by
  cases n with
  | zero => rfl
  | succ n =>
    show (if hi ≤ lo then _ else _) = _
    rw [if_pos h]
/-- unfold -/
theorem unfold_ask {P : Proc} {g p c x v : Int} {s asked told : List Int} {k n : Nat} (T : Tie P s k asked (Sc11.unfold g.toNat p.toNat c.toNat (n + 1) x told.reverse)) (hp : 0 ≤ p) (hc : 0 ≤ c) (hk : k < 100000) (hv : v = s.getD k 0) :
    Tie P s (k + 1) (asked ++ [p, c, x, 0]) (if v = 0 then .done ⟨(told.length : Int), told⟩ else if n = 0 then .done ⟨((told ++ [x]).length : Int), told ++ [x]⟩ else .ask ⟨g.toNat, c.toNat, x, 0⟩ fun y => Sc11.unfold g.toNat p.toNat c.toNat n y (told ++ [x]).reverse) := by
  have t := Tie.turn (K := fun v => if v = 0 then Proc.done ⟨(told.reverse.length : Int), told.reverse.reverse⟩ else if n = 0 then Proc.done ⟨((told.reverse.length + 1 : Nat) : Int), (x :: told.reverse).reverse⟩ else .ask ⟨g.toNat, c.toNat, x, 0⟩ fun y => Sc11.unfold g.toNat p.toNat c.toNat n y (x :: told.reverse)) T hk
  rw [nat_of hp, nat_of hc, ← hv, List.reverse_reverse, List.length_reverse, List.reverse_cons, List.reverse_reverse] at t
  rw [List.reverse_append, List.length_append, List.length_singleton]
  exact t
/-- what is given back, call by call -/
theorem pairs_given {f c v : Int} {s a asked out : List Int} {k : Nat} (T : Tie (Sc11.pairs f.toNat c.toNat a []) s k asked (.done ⟨v, out⟩)) (hk : k < 100000) : PySc11.pairs f c a s = v :: (listed out ++ listed asked) := T.given (c := [[7, f, c], a, s]) (q := .pairs a f.toNat c.toNat) rfl hk
theorem once_given {f c v x : Int} {s a asked out : List Int} {k : Nat} (T : Tie (Sc11.once f.toNat c.toNat x a [x]) s k asked (.done ⟨v, out⟩)) (hk : k < 100000) : PySc11.once f c (x :: a) s = v :: (listed out ++ listed asked) := T.given (c := [[8, f, c], x :: a, s]) (q := .once (x :: a) f.toNat c.toNat) rfl hk
theorem once_none (f c : Int) (s : List Int) : PySc11.once f c [] s = [0, 0, 0] := rfl
theorem merge_given {f c v : Int} {s a b asked out : List Int} {k : Nat} (T : Tie (Sc11.merge f.toNat c.toNat (a.length + b.length + 1) a b []) s k asked (.done ⟨v, out⟩)) (hk : k < 100000) : PySc11.merge f c a b s = v :: (listed out ++ listed asked) := T.given (c := [[9, f, c], a, b, s]) (q := .merge a b f.toNat c.toNat) rfl hk
theorem unfold_given {x g p c most v : Int} {s asked out : List Int} {k : Nat} (T : Tie (Sc11.unfold g.toNat p.toNat c.toNat most.toNat x []) s k asked (.done ⟨v, out⟩)) (hk : k < 100000) : PySc11.unfold x g p c most s = v :: (listed out ++ listed asked) := T.given (c := [[10, x, g, p, c, most], s]) (q := .unfold x g.toNat p.toNat c.toNat most.toNat) rfl hk
theorem times_given {x n g c v : Int} {s asked out : List Int} {k : Nat} (T : Tie (Sc11.times g.toNat c.toNat n.toNat x) s k asked (.done ⟨v, out⟩)) (hk : k < 100000) : PySc11.times x n g c s = v :: (listed out ++ listed asked) := T.given (c := [[11, x, n, g, c], s]) (q := .times x n.toNat g.toNat c.toNat) rfl hk
theorem both_given {x g h c v : Int} {s asked out : List Int} {k : Nat} (T : Tie (call1 (maybe g) c.toNat x fun y => call1 (maybe h) c.toNat y number) s k asked (.done ⟨v, out⟩)) (hk : k < 100000) : PySc11.both x g h c s = v :: (listed out ++ listed asked) := T.given (c := [[12, x, g, h, c], s]) (q := .both x (maybe g) (maybe h) c.toNat) rfl hk
theorem search_given {lo hi p c v : Int} {s asked out : List Int} {k : Nat} (T : Tie (Sc11.search p.toNat c.toNat 65 lo hi) s k asked (.done ⟨v, out⟩)) (hk : k < 100000) : PySc11.search lo hi p c s = v :: (listed out ++ listed asked) := T.given (c := [[13, lo, hi, p, c], s]) (q := .search lo hi p.toNat c.toNat) rfl hk
/-- both, its four kinds -/
theorem both_00 {x g h c : Int} {s : List Int} (hg : 0 ≤ g) (hh : 0 ≤ h) (hc : 0 ≤ c) : PySc11.both x g h c s = s.getD 1 0 :: (listed [] ++ listed [g, c, x, 0, h, c, s.getD 0 0, 0]) := by
  have t := Tie.start (call1 (maybe g) c.toNat x fun y => call1 (maybe h) c.toNat y number) s
  have t : Tie (call1 (maybe g) c.toNat x fun y => call1 (maybe h) c.toNat y number) s 0 [] (.ask ⟨g.toNat, c.toNat, x, 0⟩ fun y => .ask ⟨h.toNat, c.toNat, y, 0⟩ number) := by
    rw [maybe_some hg, maybe_some hh]
    exact Tie.start _ _
  have t := (t.turn (by omega)).turn (by omega)
  rw [nat_of hg, nat_of hh, nat_of hc] at t
  exact both_given (v := s.getD 1 0) (out := []) t (by omega)
theorem both_10 {x g h c : Int} {s : List Int} (hg : g < 0) (hh : 0 ≤ h) (hc : 0 ≤ c) : PySc11.both x g h c s = s.getD 0 0 :: (listed [] ++ listed [h, c, x, 0]) := by
  have t : Tie (call1 (maybe g) c.toNat x fun y => call1 (maybe h) c.toNat y number) s 0 [] (.ask ⟨h.toNat, c.toNat, x, 0⟩ number) := by
    rw [maybe_none hg, maybe_some hh]
    exact Tie.start _ _
  have t := t.turn (by omega)
  rw [nat_of hh, nat_of hc] at t
  exact both_given (v := s.getD 0 0) (out := []) t (by omega)
theorem both_01 {x g h c : Int} {s : List Int} (hg : 0 ≤ g) (hh : h < 0) (hc : 0 ≤ c) : PySc11.both x g h c s = s.getD 0 0 :: (listed [] ++ listed [g, c, x, 0]) := by
  have t : Tie (call1 (maybe g) c.toNat x fun y => call1 (maybe h) c.toNat y number) s 0 [] (.ask ⟨g.toNat, c.toNat, x, 0⟩ number) := by
    rw [maybe_some hg, maybe_none hh]
    exact Tie.start _ _
  have t := t.turn (by omega)
  rw [nat_of hg, nat_of hc] at t
  exact both_given (v := s.getD 0 0) (out := []) t (by omega)
theorem both_11 {x g h c : Int} {s : List Int} (hg : g < 0) (hh : h < 0) : PySc11.both x g h c s = x :: (listed [] ++ listed []) := by
  have t : Tie (call1 (maybe g) c.toNat x fun y => call1 (maybe h) c.toNat y number) s 0 [] (number x) := by
    rw [maybe_none hg, maybe_none hh]
    exact Tie.start _ _
  exact both_given (v := x) (out := []) t (by omega)
/-- the halvings of search -/
theorem half_lt {lo hi : Int} {k : Nat} (h : (hi - lo) * 2 ^ k < 2 ^ 64) (hlt : lo < hi) : k < 64 := by
  by_cases hk : k < 64
  · exact hk
  · exfalso
    have e : (2 : Int) ^ k = 2 ^ 64 * 2 ^ (k - 64) := by rw [← Int.pow_add]; congr 1; omega
    have p : (0 : Int) < 2 ^ (k - 64) := Int.pow_pos (by decide)
    have q : (2 : Int) ^ 64 ≤ 2 ^ k := by
      rw [e]
      have := Int.mul_le_mul_of_nonneg_left (c := (2 : Int) ^ 64) (show (1 : Int) ≤ 2 ^ (k - 64) by omega) (by decide)
      rw [Int.mul_one] at this
      exact this
    have r : (2 : Int) ^ k ≤ (hi - lo) * 2 ^ k := by
      have := Int.mul_le_mul_of_nonneg_right (c := (2 : Int) ^ k) (show (1 : Int) ≤ hi - lo by omega) (by omega)
      rw [Int.one_mul] at this
      exact this
    omega
theorem half_next {d e : Int} {k : Nat} (h : d * 2 ^ k < 2 ^ 64) (he : 2 * e ≤ d) : e * 2 ^ (k + 1) < 2 ^ 64 := by
  have p : (0 : Int) ≤ 2 ^ k := Int.le_of_lt (Int.pow_pos (by decide))
  have q := Int.mul_le_mul_of_nonneg_right (c := (2 : Int) ^ k) he p
  have r : e * 2 ^ (k + 1) = 2 * e * 2 ^ k := by rw [Int.pow_succ, Int.mul_comm ((2 : Int) ^ k) 2, ← Int.mul_assoc, Int.mul_comm e 2]
  rw [r]
  omega
end My

open PySem PySem.W
set_option Elab.async false
theorem My.said : PySem.Challenge.rw_handedover_s07_pairs.wellSaid = true := by decide +kernel
abbrev My.Pre (f : Int) (c : Int) (a : List Int) (answers : List Int) : Prop := PySem.Challenge.rw_handedover_s07_pairs.pre [.int f, .int c, ofPy (.list (a.map .int)), ofPy (.list (answers.map .int))] = true
theorem My.in_len {l : List Int} {lo hi : Nat} (h : Codec.inLen lo hi l = true) : l.length ≤ hi := by
  unfold Codec.inLen Codec.inNat at h
  exact of_decide_eq_true (Bool.and_eq_true_iff.mp h).2
theorem My.in_int {lo hi z : Int} (h : Codec.inInt lo hi z = true) : lo ≤ z ∧ z ≤ hi := by
  unfold Codec.inInt at h
  exact ⟨of_decide_eq_true (Bool.and_eq_true_iff.mp h).1, of_decide_eq_true (Bool.and_eq_true_iff.mp h).2⟩
theorem My.facts {f : Int} {c : Int} {a : List Int} {answers : List Int} (h : My.Pre f c a answers) : (0 ≤ f ∧ f ≤ 2147483647) ∧ (0 ≤ c ∧ c ≤ 18446744073709551615) ∧ a.length ≤ 4096 ∧ answers.length ≤ 16000 := by
  obtain ⟨⟨f1, c1, a1, answers1, u1⟩, w, q, e⟩ := os_pre My.said h
  have i1 := List.cons.inj e
  have i2 := List.cons.inj i1.2
  have i3 := List.cons.inj i2.2
  have i4 := List.cons.inj i3.2
  have j1 := os_j_int i1.1
  have j2 := os_j_int i2.1
  have j3 := os_j_ints i3.1
  have j4 := os_j_ints i4.1
  subst j1 j2 j3 j4
  have w1 := Bool.and_eq_true_iff.mp w
  have w2 := Bool.and_eq_true_iff.mp w1.2
  have w3 := Bool.and_eq_true_iff.mp w2.2
  have w4 := Bool.and_eq_true_iff.mp w3.2
  exact ⟨My.in_int w1.1, My.in_int w2.1, My.in_len (Bool.and_eq_true_iff.mp w3.1).1, My.in_len (Bool.and_eq_true_iff.mp w4.1).1⟩
theorem My.finish0 {f : Int} {c : Int} {a : List Int} {answers : List Int} (h : My.Pre f c a answers) {out : List Int} (W : PySc11.pairs f c a answers = out) :
    PySem.Challenge.rw_handedover_s07_pairs.post [.int f, .int c, ofPy (.list (a.map .int)), ofPy (.list (answers.map .int))] (WData.list (ofPys (List.map PyData.int out))) = true := by
  obtain ⟨⟨f1, c1, a1, answers1, u1⟩, w, q, e⟩ := os_pre My.said h
  clear h
  have i1 := List.cons.inj e
  have i2 := List.cons.inj i1.2
  have i3 := List.cons.inj i2.2
  have i4 := List.cons.inj i3.2
  have j1 := os_j_int i1.1
  have j2 := os_j_int i2.1
  have j3 := os_j_ints i3.1
  have j4 := os_j_ints i4.1
  subst j1 j2 j3 j4
  rw [e]
  refine os_shut My.said w ?_
  show WData.list _ = WData.list (List.map WData.int (PySc11.pairs _ _ _ _))
  rw [W, ofPys_ints]
section
open PySem.Calls PyProof.Rows
variable {prog : Program} {w : World} {A : Around} {E : Value → Shared → Prop} {s : Shared} {h₀ h : Heap} {L D b : Addr} {m : Str → Option Value} {news news' : List (Addr × Obj)} {us ys : List Value} {ns ms : List Int} {n n2 : Nat}
/-- xs.extend(ys), both lists of whole numbers of the call's own -/
theorem My.extend {Q : Value → Shared → Prop} (F : Fr h₀ L s.heap m) (N : News h₀ L s.heap news) (U : Upd D (listOf us.toArray n) (listOf (us ++ ys).toArray (n + 1)) news news') (hb : (b, listOf ys.toArray n2) ∈ news)
    (hi : IntsAre us ns) (hj : IntsAre ys ms) (hne : ms.length ≠ 0) (hz : ns.length + ms.length ≤ sizeLine)
    (h : ∀ h', Fr h₀ L h' m → News h₀ L h' news' → IntsAre (us ++ ys) (ns ++ ms) → Q .none { s with heap := h' }) : wpAny (model prog w) A (call (.builtin "list.extend") [.ref D, .ref b]) Q E s := by
  have l1 : us.toArray.size = ns.length := by simp [hi.length]
  have l2 : ys.toArray.size = ms.length := by simp [hj.length]
  have hs : us.toArray.size + ys.toArray.size ≤ sizeLine := by rw [l1, l2]; exact hz
  refine kl_extend F N hb (by simp) (by rw [Array.length_toList, l2]; exact hne) U (extend_door hs) (by rw [Array.length_toList, l1]; omega) (by omega) fun h' F' N' => h h' F' N' (hi.append hj)
/-- the same, whether or not the second is empty -/
theorem My.extend_any {Q : Value → Shared → Prop} {g : Obj → List (Addr × Obj)} (F : Fr h₀ L s.heap m) (N : News h₀ L s.heap news) (U : UpdF D (listOf us.toArray n) news g) (hb : (b, listOf ys.toArray n2) ∈ news)
    (hi : IntsAre us ns) (hj : IntsAre ys ms) (hz : ns.length + ms.length ≤ sizeLine)
    (h : ∀ h' n', Fr h₀ L h' m → News h₀ L h' (g (listOf (us ++ ys).toArray n')) → IntsAre (us ++ ys) (ns ++ ms) → Q .none { s with heap := h' }) : wpAny (model prog w) A (call (.builtin "list.extend") [.ref D, .ref b]) Q E s := by
  obtain ⟨pre, post, rfl, e, a, c⟩ := U.split
  have l1 : us.length = ns.length := hi.length
  have l2 : ys.toArray.size = ms.length := by simp [hj.length]
  refine extend_in (own := pre) (rest := post) F N a c (N _ hb).1 (fun h' n' F' N' => h h' n' F' ?_ (hi.append hj)) (by rw [l1, l2]; exact hz)
  rw [e]
  exact N'
end
local macro_rules | `(tactic| walk_at "call builtin:list.extend") => `(tactic| (k_here; (with_reducible show wpAny _ _ (call (Value.builtin _) [Value.ref _, Value.ref _]) _ _ _); k_dflt (refine' My.extend ?F ?N ?U ?b ?i ?j ?ne ?z ?_; (case F => k_asm); (case N => k_asm); (case b => k_mem); (case U => k_upd); (case i => with_reducible assumption); (case j => exact .cons _ _ (.cons _ _ (.cons _ _ (.cons _ _ .nil)))); (case ne => exact Nat.succ_ne_zero _); (case z => (simp only [PySem.sizeLine_eq, List.length_append, List.length_cons, List.length_nil]; omega))); intro h' F' N' hI'))
local macro_rules | `(tactic| walk_at "call builtin:list.extend") => `(tactic| (k_here; (with_reducible show wpAny _ _ (call (Value.builtin _) [Value.ref _, Value.ref _]) _ _ _); k_dflt (refine' My.extend_any ?F ?N ?U ?b ?i ?j ?z ?_; (case F => k_asm); (case N => k_asm); (case b => k_mem); (case U => k_updF); (case i => with_reducible assumption); (case j => with_reducible assumption); (case z => (simp only [PySem.sizeLine_eq, List.length_append, List.length_drop, List.length_cons, List.length_nil]; omega))); intro h' n' F' N' hI'))
theorem My.len4 (asked : List Int) (f c x y : Int) {pre : List Int} (n : Int) (h : asked.length = 4 * pre.length) : (asked ++ [f, c, x, y]).length = 4 * (pre ++ [n]).length := by
  simp only [List.length_append, List.length_cons, List.length_nil]
  omega
theorem My.len1 {pre post a : List Int} {n : Int} (e : a = pre ++ n :: post) {k : Nat} (h : a.length ≤ k) : (pre ++ [n]).length ≤ k := by
  rw [e] at h
  simp only [List.length_append, List.length_cons, List.length_nil] at h ⊢
  omega
theorem My.len2 {told pre : List Int} (v n : Int) (h : told.length = pre.length) : (told ++ [v]).length = (pre ++ [n]).length := by
  simp only [List.length_append, List.length_cons, List.length_nil]
  omega
theorem My.place {asked : List Int} {k : Nat} (h : asked.length = 4 * k) : ((asked.length : Int).fdiv 4).toNat = k := by
  rw [Int.fdiv_eq_ediv_of_nonneg _ (by decide)]
  omega
theorem My.past {asked s : List Int} {k : Nat} (h : asked.length = 4 * k) (hv : ¬ (asked.length : Int).fdiv 4 < (s.length : Int)) : 0 = s.getD k 0 := by
  rw [Int.fdiv_eq_ediv_of_nonneg _ (by decide)] at hv
  rw [List.getD_eq_getElem?_getD, List.getElem?_eq_none (by omega)]
  rfl
/-- what ask gave back is the next of the answers -/
theorem My.val {asked s : List Int} {k : Nat} (h : asked.length = 4 * k) : s.getD ((asked.length : Int).fdiv 4).toNat 0 = s.getD k 0 := by
  rw [My.place h]

theorem My.lenA {f : Int} {c : Int} {a : List Int} {answers : List Int} (h : My.Pre f c a answers) {vs : List Value} (i : PyProof.Rows.IntsAre vs a) : vs.length ≤ 4096 := by
  rw [i.length]
  exact (My.facts h).2.2.1
local macro_rules | `(tactic| walk_at "InvEndN") => `(tactic| k_dflt kst_close)
structure My.Word {f : Int} {c : Int} {a : List Int} {answers : List Int} (h : My.Pre f c a answers) (pre asked told : List Int) : Prop where
  eq : My.Tie (Sc11.pairs f.toNat c.toNat a []) answers pre.length asked (Sc11.pairs f.toNat c.toNat (a.drop pre.length) told.reverse)
theorem My.start {f : Int} {c : Int} {a : List Int} {answers : List Int} (h : My.Pre f c a answers) : ([] : List Int).length = 4 * ([] : List Int).length ∧ ([] : List Int).length = ([] : List Int).length ∧ ([] : List Int).length ≤ 4096 ∧ My.Word h [] [] [] := ⟨rfl, rfl, by decide, ⟨My.Tie.start _ _⟩⟩
theorem My.drop_at {l : List Int} {i : Nat} (hi : i < l.length) : l.drop i = l.getD i 0 :: l.drop (i + 1) := by
  rw [List.drop_eq_getElem_cons hi, List.getD_eq_getElem?_getD, List.getElem?_eq_getElem hi]
  rfl
theorem My.turn {f : Int} {c : Int} {a : List Int} {answers : List Int} {h : My.Pre f c a answers} {n v : Int} {pre asked told : List Int} {vs : List Value} (T : My.Word h pre asked told) (e : n = 1 + (pre.length : Int)) (lt : pre.length < ((vs.length : Int) - 1).toNat) (i : vs.length = a.length) (l : asked.length = 4 * pre.length) (l2 : told.length = pre.length) (hv : v = answers.getD pre.length 0) :
    (asked ++ [f, c, a.getD (n - 1).toNat 0, a.getD n.toNat 0]).length = 4 * (pre ++ [n]).length ∧ (told ++ [v]).length = (pre ++ [n]).length ∧ (pre ++ [n]).length ≤ 4096 ∧ My.Word h (pre ++ [n]) (asked ++ [f, c, a.getD (n - 1).toNat 0, a.getD n.toNat 0]) (told ++ [v]) := by
  have P := My.facts h
  have l3 : (pre ++ [n]).length = pre.length + 1 := by rw [List.length_append]; rfl
  have e1 : (n - 1).toNat = pre.length := by omega
  have e2 : n.toNat = pre.length + 1 := by omega
  have T := T.eq
  rw [My.drop_at (i := pre.length) (by omega), My.drop_at (i := pre.length + 1) (by omega)] at T
  have t := My.pairs_turn T P.1.1 P.2.1.1 (by omega) hv
  rw [← My.drop_at (i := pre.length + 1) (by omega)] at t
  refine ⟨My.len4 _ _ _ _ _ _ l, My.len2 _ _ l2, by omega, ⟨?_⟩⟩
  rw [l3, e1, e2]
  exact t
theorem My.pairs_end (f c : Nat) (l told : List Int) (h : l.length ≤ 1) : Sc11.pairs f c l told.reverse = .done ⟨(told.length : Int), told⟩ := by
  have g : Sc11.pairs f c l told.reverse = .done ⟨(told.reverse.length : Int), told.reverse.reverse⟩ := by
    match l, h with
    | [], _ => rfl
    | [x], _ => rfl
  rw [g, List.reverse_reverse, List.length_reverse]
theorem My.eqn {f : Int} {c : Int} {a : List Int} {answers : List Int} {h : My.Pre f c a answers} {pre asked told : List Int} {vs : List Value} (T : My.Word h pre asked told) (i : PyProof.Rows.IntsAre vs a) (e : pre.length = ((vs.length : Int) - 1).toNat) : PySc11.pairs f c a answers = [(told.length : Int), (told.length : Int)] ++ told ++ [(asked.length : Int)] ++ asked := by
  have P := My.facts h
  have T := T.eq
  have li := i.length
  rw [My.pairs_end _ _ _ _ (by rw [List.length_drop]; omega)] at T
  rw [My.pairs_given T (by omega)]
  unfold Sc11Neutral.listed
  simp only [List.cons_append, List.nil_append, List.append_assoc]
theorem My.rl (a : Int) (n : Nat) : (rangeKs a n).length = n := by
  unfold rangeKs
  rw [List.length_map, List.length_range]
set_option maxRecDepth 100000 in
set_option maxHeartbeats 8000000 in
theorem PySem.Challenge.cw_handedover_s07_pairs_holds : PySem.Challenge.rw_handedover_s07_pairs.Holds := by
  k_with "state" => first
    | exact My.start _
    | exact My.turn (by assumption) (by assumption) (by assumption) (by assumption) (by assumption) (by assumption) (My.val (by assumption))
    | exact My.turn (by assumption) (by assumption) (by assumption) (by assumption) (by assumption) (by assumption) (My.past (by assumption) (by assumption))
  k_with "pyIter ref" => ((with_reducible rename OpenSpec.pre _ _ = true => hP9); (have hB9 := My.lenA hP9 (by assumption)); k_state (fun pre asked told => asked.length = 4 * pre.length ∧ told.length = pre.length ∧ pre.length ≤ 4096 ∧ My.Word hP9 pre asked told) "asked" "told")
  open_ks with [.int 0, .int 0, .list [], .list []]
  all_goals first | exact My.finish0 (by assumption) (My.eqn (by assumption) (by assumption) (My.rl _ _))
#print axioms PySem.Challenge.cw_handedover_s07_pairs_holds
