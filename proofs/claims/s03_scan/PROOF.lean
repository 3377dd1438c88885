import PyProof.Rows.All
import KE.OsGo
import KE.OsArgs
import PySem.Challenge.RW_handedover_s03_scan
namespace My
open Sc11 Sc11Neutral
/-- The specification's run of P has come to Q: k numbers were asked for, and what was asked is told in asked. -/
structure Tie (P : Proc) (s : List Int) (k : Nat) (asked : List Int) (Q : Proc) : Prop where
  eq : through 100000 s P [] = through (100000 - k) (s.drop k) Q asked.reverse
theorem Tie.start (P : Proc) (s : List Int) : Tie P s 0 [] P := ⟨rfl⟩
theorem drop_head (s : List Int) (k : Nat) : (s.drop k).headD 0 = s.getD k 0 := by
  induction s generalizing k with
  | nil => simp
  | cons a s ih => cases k with
    | zero => rfl
    | succ k => simp
theorem Tie.turn {P : Proc} {s : List Int} {k : Nat} {asked : List Int} {w c : Nat} {x y : Int} {K : Int → Proc} (T : Tie P s k asked (.ask ⟨w, c, x, y⟩ K)) (hk : k < 100000) :
    Tie P s (k + 1) (asked ++ [(w : Int), (c : Int), x, y]) (K (s.getD k 0)) := by
  refine ⟨?_⟩
  rw [T.eq]
  have e : 100000 - k = (100000 - (k + 1)) + 1 := by omega
  rw [e]
  show through (100000 - (k + 1)) ((s.drop k).drop 1) (K ((s.drop k).headD 0)) (y :: x :: (c : Int) :: (w : Int) :: asked.reverse) = _
  rw [drop_head, List.drop_drop, List.reverse_append]
  rfl
theorem Tie.done {P : Proc} {s : List Int} {k : Nat} {asked : List Int} {z : Ans} (T : Tie P s k asked (.done z)) (hk : k < 100000) :
    through 100000 s P [] = (asked, z) := by
  rw [T.eq]
  have e : 100000 - k = (100000 - (k + 1)) + 1 := by omega
  rw [e]
  show (asked.reverse.reverse, z) = _
  rw [List.reverse_reverse]
/-- What is given back. -/
theorem Tie.given {c : Sc11Neutral.Call} {q : Sc11.Call} {s : List Int} {k : Nat} {asked : List Int} {z : Ans} (hc : callOf c = some (q, s)) (T : Tie (proc q) s k asked (.done z)) (hk : k < 100000) :
    f c = z.value :: (listed z.out ++ listed asked) := by
  unfold f
  rw [hc]
  show (through 100000 s (proc q) []).2.value :: (listed (through 100000 s (proc q) []).2.out ++ listed (through 100000 s (proc q) []).1) = _
  rw [T.done hk]
theorem nat_of {f : Int} (h : 0 ≤ f) : ((f.toNat : Nat) : Int) = f := Int.toNat_of_nonneg h

/-- scan -/
structure Scan (f c b : Int) (s pre asked : List Int) (r : Int) (told : List Int) : Prop where
  eq : 0 ≤ f → 0 ≤ c → ∀ rest, pre.length + rest.length ≤ 5000 → Tie (Sc11.scan f.toNat c.toNat (pre ++ rest) b []) s pre.length asked (Sc11.scan f.toNat c.toNat rest r told.reverse)
theorem Scan.start (f c b : Int) (s : List Int) : Scan f c b s [] [] b [] := ⟨fun _ _ _ _ => Tie.start _ _⟩
theorem Scan.turn {f c b r x v : Int} {s pre asked told : List Int} (T : Scan f c b s pre asked r told) (hv : v = s.getD pre.length 0) :
    Scan f c b s (pre ++ [x]) (asked ++ [f, c, r, x]) v (told ++ [v]) := by
  refine ⟨fun hf hc rest h => ?_⟩
  rw [List.length_append, List.length_singleton] at h
  have t := (T.eq hf hc (x :: rest) (by rw [List.length_cons]; omega)).turn (by omega)
  rw [nat_of hf, nat_of hc, ← hv] at t
  rw [List.append_assoc, List.length_append, List.length_singleton, List.reverse_append]
  exact t
theorem Scan.whole {f c b r : Int} {s a asked told : List Int} (T : Scan f c b s a asked r told) (hf : 0 ≤ f) (hc : 0 ≤ c) (h : a.length ≤ 4096) :
    PySc11.scan f c b a s = (told.length : Int) :: (listed told ++ listed asked) := by
  have t := T.eq hf hc [] (by rw [List.length_nil]; omega)
  rw [List.append_nil] at t
  have e := t.given (c := [[3, f, c, b], a, s]) (q := .scan a f.toNat c.toNat b) rfl (by omega)
  rw [List.reverse_reverse, List.length_reverse] at e
  exact e
end My

open PySem PySem.W
set_option Elab.async false
theorem My.said : PySem.Challenge.rw_handedover_s03_scan.wellSaid = true := by decide +kernel

theorem My.in_len {l : List Int} {lo hi : Nat} (h : Codec.inLen lo hi l = true) : l.length ≤ hi := by
  unfold Codec.inLen Codec.inNat at h
  exact of_decide_eq_true (Bool.and_eq_true_iff.mp h).2
abbrev My.Pre (f c b : Int) (a s : List Int) : Prop := PySem.Challenge.rw_handedover_s03_scan.pre [.int f, .int c, .int b, ofPy (.list (a.map .int)), ofPy (.list (s.map .int))] = true
theorem My.pre_len {f c b : Int} {a s : List Int} (h : My.Pre f c b a s) : 0 ≤ f ∧ 0 ≤ c ∧ a.length ≤ 4096 := by
  obtain ⟨⟨f', c', b', a', s', u⟩, w, q, e⟩ := os_pre My.said h
  have i1 := List.cons.inj e
  have i2 := List.cons.inj i1.2
  have i3 := List.cons.inj i2.2
  have i4 := List.cons.inj i3.2
  have j1 := os_j_int i1.1
  have j2 := os_j_int i2.1
  have j4 := os_j_ints i4.1
  subst j1 j2 j4
  have w1 := Bool.and_eq_true_iff.mp w
  have w2 := Bool.and_eq_true_iff.mp w1.2
  have w3 := Bool.and_eq_true_iff.mp w2.2
  have w4 := Bool.and_eq_true_iff.mp w3.2
  exact ⟨of_decide_eq_true (Bool.and_eq_true_iff.mp w1.1).1, of_decide_eq_true (Bool.and_eq_true_iff.mp w2.1).1, My.in_len (Bool.and_eq_true_iff.mp w4.1).1⟩
/-- the word: of the request -/
structure My.Word {f c b : Int} {a s : List Int} (h : My.Pre f c b a s) (pre asked told : List Int) (r : Int) : Prop where
  eq : My.Scan f c b s pre asked r told
section
open PySem.Calls PyProof.Rows
variable {prog : Program} {w : World} {A : Around} {E : Value → Shared → Prop} {s : Shared} {h₀ h : Heap} {L D b : Addr} {m : Str → Option Value} {news news' : List (Addr × Obj)} {us ys : List Value} {ns ms : List Int} {n n2 : Nat}
/-- xs.extend(ys), both lists of whole numbers of the call's own -/
theorem My.extend {Q : Value → Shared → Prop} (F : Fr h₀ L s.heap m) (N : News h₀ L s.heap news) (U : Upd D (listOf us.toArray n) (listOf (us ++ ys).toArray (n + 1)) news news') (hb : (b, listOf ys.toArray n2) ∈ news)
    (hi : IntsAre us ns) (hj : IntsAre ys ms) (hne : ms.length ≠ 0) (hz : ns.length + ms.length ≤ sizeLine)
    (h : ∀ h', Fr h₀ L h' m → News h₀ L h' news' → IntsAre (us ++ ys) (ns ++ ms) → Q .none { s with heap := h' }) : wpAny (model prog w) A (call (.builtin "list.extend") [.ref D, .ref b]) Q E s := by
  have l1 : us.toArray.size = ns.length := by simp [hi.length]
  have l2 : ys.toArray.size = ms.length := by simp [hj.length]
  have hs : us.toArray.size + ys.toArray.size ≤ sizeLine := by rw [l1, l2]; exact hz
  refine kl_extend F N hb (by simp) (by rw [Array.length_toList, l2]; exact hne) U (extend_door hs) (by rw [Array.length_toList, l1]; omega) (by omega) fun h' F' N' => h h' F' N' (hi.append hj)
end
local macro_rules | `(tactic| walk_at "call builtin:list.extend") => `(tactic| (k_here; (with_reducible show wpAny _ _ (call (Value.builtin _) [Value.ref _, Value.ref _]) _ _ _); k_dflt (refine' My.extend ?F ?N ?U ?b ?i ?j ?ne ?z ?_; (case F => k_asm); (case N => k_asm); (case b => k_mem); (case U => k_upd); (case i => with_reducible assumption); (case j => exact .cons _ _ (.cons _ _ (.cons _ _ (.cons _ _ .nil)))); (case ne => exact Nat.succ_ne_zero _); (case z => (simp only [PySem.sizeLine_eq, List.length_cons, List.length_nil]; omega))); intro h' F' N' hI'))

theorem My.start {f c b : Int} {a s : List Int} (h : My.Pre f c b a s) : ([] : List Int).length = 4 * ([] : List Int).length ∧ ([] : List Int).length = ([] : List Int).length ∧ ([] : List Int).length ≤ 4096 ∧ My.Word h [] [] [] b := ⟨rfl, rfl, by decide, ⟨My.Scan.start _ _ _ _⟩⟩
theorem My.len4 (asked : List Int) (f c x y : Int) {pre : List Int} (n : Int) (h : asked.length = 4 * pre.length) : (asked ++ [f, c, x, y]).length = 4 * (pre ++ [n]).length := by
  simp only [List.length_append, List.length_cons, List.length_nil]
  omega
theorem My.len1 {pre post a : List Int} {n : Int} (e : a = pre ++ n :: post) {k : Nat} (h : a.length ≤ k) : (pre ++ [n]).length ≤ k := by
  rw [e] at h
  simp only [List.length_append, List.length_cons, List.length_nil] at h ⊢
  omega
theorem My.place {asked pre : List Int} (h : asked.length = 4 * pre.length) : ((asked.length : Int).fdiv 4).toNat = pre.length := by
  rw [Int.fdiv_eq_ediv_of_nonneg _ (by decide)]
  omega
theorem My.past {asked pre s : List Int} (h : asked.length = 4 * pre.length) (hv : ¬ (asked.length : Int).fdiv 4 < (s.length : Int)) : 0 = s.getD pre.length 0 := by
  rw [Int.fdiv_eq_ediv_of_nonneg _ (by decide)] at hv
  rw [List.getD_eq_getElem?_getD, List.getElem?_eq_none (by omega)]
  rfl
theorem My.len2 {told pre : List Int} (v n : Int) (h : told.length = pre.length) : (told ++ [v]).length = (pre ++ [n]).length := by
  simp only [List.length_append, List.length_cons, List.length_nil]
  omega
theorem My.turn {f c b r n : Int} {a s pre post asked told : List Int} {h : My.Pre f c b a s} (T : My.Word h pre asked told r) (e : a = pre ++ n :: post) (l : asked.length = 4 * pre.length) (l2 : told.length = pre.length) :
    (asked ++ [f, c, r, n]).length = 4 * (pre ++ [n]).length ∧ (told ++ [s.getD ((asked.length : Int).fdiv 4).toNat 0]).length = (pre ++ [n]).length ∧ (pre ++ [n]).length ≤ 4096 ∧ My.Word h (pre ++ [n]) (asked ++ [f, c, r, n]) (told ++ [s.getD ((asked.length : Int).fdiv 4).toNat 0]) (s.getD ((asked.length : Int).fdiv 4).toNat 0) :=
  ⟨My.len4 _ _ _ _ _ _ l, My.len2 _ _ l2, My.len1 e (My.pre_len h).2.2, ⟨T.eq.turn (by rw [My.place l])⟩⟩
theorem My.turn0 {f c b r n : Int} {a s pre post asked told : List Int} {h : My.Pre f c b a s} (T : My.Word h pre asked told r) (e : a = pre ++ n :: post) (l : asked.length = 4 * pre.length) (l2 : told.length = pre.length) (hv : ¬ (asked.length : Int).fdiv 4 < (s.length : Int)) :
    (asked ++ [f, c, r, n]).length = 4 * (pre ++ [n]).length ∧ (told ++ [0]).length = (pre ++ [n]).length ∧ (pre ++ [n]).length ≤ 4096 ∧ My.Word h (pre ++ [n]) (asked ++ [f, c, r, n]) (told ++ [0]) 0 :=
  ⟨My.len4 _ _ _ _ _ _ l, My.len2 _ _ l2, My.len1 e (My.pre_len h).2.2, ⟨T.eq.turn (My.past l hv)⟩⟩
theorem My.finish {f c b r : Int} {a s asked told : List Int} {h : My.Pre f c b a s} (T : My.Word h a asked told r) (l : told.length = a.length) :
    PySem.Challenge.rw_handedover_s03_scan.post [.int f, .int c, .int b, ofPy (.list (a.map .int)), ofPy (.list (s.map .int))] (WData.list (ofPys (List.map PyData.int ([(a.length : Int), (told.length : Int)] ++ told ++ [(asked.length : Int)] ++ asked)))) = true := by
  have P := My.pre_len h
  have W := T.eq.whole P.1 P.2.1 P.2.2
  clear T P
  obtain ⟨⟨f', c', b', a', s', u⟩, w, q, e⟩ := os_pre My.said h
  clear h
  have i1 := List.cons.inj e
  have i2 := List.cons.inj i1.2
  have i3 := List.cons.inj i2.2
  have i4 := List.cons.inj i3.2
  have i5 := List.cons.inj i4.2
  have j1 := os_j_int i1.1
  have j2 := os_j_int i2.1
  have j3 := os_j_int i3.1
  have j4 := os_j_ints i4.1
  have j5 := os_j_ints i5.1
  subst j1 j2 j3 j4 j5
  rw [e]
  refine os_shut My.said w ?_
  show WData.list _ = WData.list (List.map WData.int (PySc11.scan _ _ _ _ _))
  rw [W, ofPys_ints, l]
  refine congrArg WData.list (congrArg (List.map WData.int) ?_)
  unfold Sc11Neutral.listed
  rw [l]
  simp only [List.cons_append, List.nil_append, List.append_assoc]
set_option maxRecDepth 100000 in
set_option maxHeartbeats 8000000 in
theorem PySem.Challenge.cw_handedover_s03_scan_holds : PySem.Challenge.rw_handedover_s03_scan.Holds := by
  k_with "state" => first
    | exact My.start _
    | exact My.turn (by assumption) (by assumption) (by assumption) (by assumption)
    | exact My.turn0 (by assumption) (by assumption) (by assumption) (by assumption) (by assumption)
  k_with "pyIter ref" => ((with_reducible rename OpenSpec.pre _ _ = true => hP9); k_state (fun pre asked told r => asked.length = 4 * pre.length ∧ told.length = pre.length ∧ pre.length ≤ 4096 ∧ My.Word hP9 pre asked told r) "asked" "told" "r")
  open_ks with [.int 0, .int 0, .int 0, .list [], .list []]
  exact My.finish (by assumption) (by assumption)
#print axioms PySem.Challenge.cw_handedover_s03_scan_holds
