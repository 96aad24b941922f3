"""What the interface says of every function's answers, asked of one function by each class that takes this in."""

import contextlib
import copy
import inspect
import io

from waiting import lines


def state():
    """What the module holds, and what hangs on its functions."""
    values = {name: value for name, value in vars(lines).items() if not name.startswith("__")}
    attributes = {name: dict(vars(value)) for name, value in values.items() if inspect.isfunction(value)}
    return copy.deepcopy((values, attributes))


class Unchanged(list):
    """A list of which every change fails, also one that's taken back again."""

    def refuse(self, *arguments, **named):
        raise AssertionError("what is handed in is changed")

    append = clear = extend = insert = pop = remove = reverse = sort = refuse
    __setitem__ = __delitem__ = __iadd__ = __imul__ = refuse


class LongLists:
    """Of lists and tuples assertEqual tells the first difference alone: all of a long list's would take very long."""

    def setUp(self):
        super().setUp()
        self.addTypeEqualityFunc(list, self.same_to_the_first_difference)
        self.addTypeEqualityFunc(tuple, self.same_to_the_first_difference)

    def same_to_the_first_difference(self, told, asked, msg=None):
        if told != asked:
            place = 0
            while place < min(len(told), len(asked)) and told[place] == asked[place]:
                place += 1
            rows = [f"{len(values)} values, from {place} on {str(values[place:place + 3])[:300]}"
                    for values in (told, asked)]
            self.fail(self._formatMessage(msg, " != ".join(rows)))


class Answers(LongLists):
    """A class with this gives: call, signature, taken (arguments) and refused (arguments, the refusal's number)."""

    def every(self):
        return list(self.taken) + [arguments for arguments, number in self.refused]

    def told(self, *arguments):
        """How many numbers are told behind the first one."""
        return 1

    def test_a_refusal_is_its_number_alone(self):
        for arguments, number in self.refused:
            with self.subTest(arguments=str(arguments)[:200]):
                answer = self.call(*arguments)
                self.assertIs(type(answer), list)
                self.assertEqual(answer, [number])
                self.assertIs(type(answer[0]), int)

    def test_how_many_numbers_any_other_answer_has(self):
        for arguments in self.taken:
            with self.subTest(arguments=str(arguments)[:200]):
                answer = self.call(*arguments)
                self.assertIs(type(answer), list)
                self.assertEqual([type(number) for number in answer], [int] * (1 + self.told(*arguments)))
                self.assertGreaterEqual(min(answer), 0)

    def test_names_of_the_arguments(self):
        self.assertEqual(str(inspect.signature(self.call)), self.signature)

    def test_again_the_same(self):
        first = [self.call(*arguments) for arguments in self.every()]
        again = [self.call(*arguments) for arguments in self.every()]
        backwards = [self.call(*arguments) for arguments in reversed(self.every())]
        self.assertEqual(first, again)
        self.assertEqual(first, backwards[::-1])

    def test_an_answer_is_the_callers_own(self):
        for arguments in self.every():
            answer = self.call(*arguments)
            kept = list(answer)
            answer.append(5)
            answer[0] = 9
            self.assertEqual(self.call(*arguments), kept)

    def test_what_is_handed_in_is_not_changed(self):
        for arguments in self.every():
            before = copy.deepcopy(arguments)
            answer = self.call(*arguments)
            self.assertEqual(arguments, before)
            answer.append(5)
            answer[0] = 9
            self.assertEqual(arguments, before)

    def test_what_is_handed_in_is_not_changed_for_a_while(self):
        for arguments in self.every():
            watched = [Unchanged(value) if isinstance(value, list) else value for value in arguments]
            self.assertEqual(self.call(*watched), self.call(*arguments))

    def test_nothing_is_kept(self):
        before = state()
        for arguments in self.every():
            self.call(*arguments)
        self.assertEqual(state(), before)

    def test_nothing_is_printed(self):
        out, err = io.StringIO(), io.StringIO()
        with contextlib.redirect_stdout(out), contextlib.redirect_stderr(err):
            for arguments in self.every():
                self.call(*arguments)
        self.assertEqual((out.getvalue(), err.getvalue()), ("", ""))
